package myers

import (
	"math"
	"runtime"
	"selvage/api"
	"slices"
	"testing"
	"time"
)

// roomy is a row with spare room behind it, all of it filled.
func roomy(row []int) []int {
	return append(slices.Clone(row), 77, 78, 79)[:len(row)]
}

// somePairs are rows with much and with little in common.
func somePairs() [][2][]int {
	next := steps(17)
	long := next.thrown(300, 20)
	return [][2][]int{
		{nil, nil},
		{nil, {5, 6}},
		{{5, 6}, nil},
		{{1, 2, 3}, {1, 3}},
		{{1, 2, 3}, {1, 2, 3}},
		{{1, 2, 3}, {4, 5}},
		{{1, 2, 3, 1, 2, 2, 1}, {3, 2, 1, 2, 1, 3}},
		{{1, 2, 77, 3}, {77, 3, 1, 2}},
		{long, next.touched(long, 10, 20)},
		{long, next.mixed(long)},
	}
}

// P2: what is handed in stays as it is, the room behind it too.
func TestRowsStay(t *testing.T) {
	for _, p := range somePairs() {
		a, b := roomy(p[0]), roomy(p[1])
		Diff(a, b)
		Distance(a, b)
		Common(a, b)
		full := func(row []int) []int { return append(slices.Clone(row), 77, 78, 79) }
		if !slices.Equal(a[:len(a)+3], full(p[0])) || !slices.Equal(b[:len(b)+3], full(p[1])) {
			t.Errorf("%v, %v are now %v, %v", p[0], p[1], a[:len(a)+3], b[:len(b)+3])
		}
	}
}

// P2: one row may be both, or share its memory with the other one.
func TestRowsThatShare(t *testing.T) {
	row := with(rising(0, 50), rising(20, 50), rising(0, 30))
	holds(t, row, row, 0)
	for _, at := range []int{1, 20, 50, 99} {
		a, b := row[:at], row[at:]
		holds(t, a, b, len(row)-2*tableCommon(a, b))
		holds(t, row, row[at:], at)
		holds(t, row[:at], row, len(row)-at)
	}
}

// P2: what the caller writes into a script, and into the room behind it, is met by no row, no other script and no later call.
func TestScriptsAreTheCallers(t *testing.T) {
	for _, p := range somePairs() {
		a, b := slices.Clone(p[0]), slices.Clone(p[1])
		first, other := Diff(a, b), Diff(a, b)
		was := slices.Clone(first)
		for i := range first[:cap(first)] {
			first[:cap(first)][i] = api.Change{A: 66, N: 66, B: 66, M: 66}
		}
		if !slices.Equal(a, p[0]) || !slices.Equal(b, p[1]) {
			t.Errorf("rows %v, %v: now %v, %v", p[0], p[1], a, b)
		}
		if again := Diff(a, b); !slices.Equal(other, was) || !slices.Equal(again, was) {
			t.Errorf("%v, %v: %v, then %v and %v", a, b, was, other, again)
		}
		// nor does a script change with the rows
		for i := range a {
			a[i] = 55
		}
		for i := range b {
			b[i] = 55
		}
		if !slices.Equal(other, was) {
			t.Errorf("%v, %v: %v, then %v", p[0], p[1], was, other)
		}
	}
}

// P2: nil and the empty row are the same.
func TestNilIsEmpty(t *testing.T) {
	for _, a := range [][]int{nil, {}} {
		for _, b := range [][]int{nil, {}} {
			holds(t, a, b, 0)
		}
		for _, b := range [][]int{{3}, {3, 3, 4}} {
			holds(t, a, b, len(b))
			holds(t, b, a, len(b))
		}
	}
}

// MY1, P2: the same answer when asked again, with other calls between, and at the same time.
func TestCallsStandAlone(t *testing.T) {
	next := steps(19)
	a, b := next.thrown(400, 8), next.thrown(380, 8)
	first := Diff(a, b)
	for range 20 {
		Diff(next.thrown(90, 3), next.thrown(500, 3))
		Distance(b, a)
		if again := Diff(slices.Clone(a), roomy(b)); !slices.Equal(again, first) {
			t.Fatal("again:", again)
		}
	}
	done := make(chan []api.Change)
	for range 8 {
		go func() { done <- Diff(a, b) }()
	}
	for range 8 {
		if s := <-done; !slices.Equal(s, first) {
			t.Error("at the same time:", s)
		}
	}
}

// taken is how many bytes a call asks for, all in all.
func taken(call func()) uint64 {
	var before, after runtime.MemStats
	runtime.GC()
	runtime.ReadMemStats(&before)
	call()
	runtime.ReadMemStats(&after)
	return after.TotalAlloc - before.TotalAlloc
}

// The chapter's head: the space grows as the rows do, and not as their product: of rows twice as long it is about twice as much, and some hundred bytes a number.
func TestSpace(t *testing.T) {
	next := steps(23)
	for _, c := range []struct {
		what string
		pair func(n int) ([]int, []int)
	}{
		{"mixed", func(n int) ([]int, []int) { return rising(0, n), next.mixed(rising(0, n)) }},
		{"turned round", func(n int) ([]int, []int) { return rising(0, n), turned(rising(0, n)) }},
		{"of few kinds", func(n int) ([]int, []int) { return next.thrown(n, 4), next.thrown(n, 4) }},
		{"almost alike", func(n int) ([]int, []int) { row := next.thrown(n, 90); return row, next.touched(row, 50, 90) }},
		{"nothing in common", func(n int) ([]int, []int) { return rising(0, n), rising(n, n) }},
		{"one short", func(n int) ([]int, []int) { return next.thrown(9, 2), next.thrown(2*n, 2) }},
	} {
		const n = 6000
		a, b := c.pair(n)
		once := taken(func() { Diff(a, b) })
		a2, b2 := c.pair(2 * n)
		twice := taken(func() { Diff(a2, b2) })
		if twice > 3*once {
			t.Errorf("%s: %d bytes, of twice as many numbers %d", c.what, once, twice)
		}
		if most := uint64(400 * (len(a2) + len(b2))); twice > most {
			t.Errorf("%s: %d bytes, of %d numbers", c.what, twice, len(a2)+len(b2))
		}
		for what, call := range map[string]func(){
			"Distance": func() { Distance(a2, b2) },
			"Common":   func() { Common(a2, b2) },
		} {
			if took := taken(call); took > 3*once {
				t.Errorf("%s of %s: %d bytes, of half as many numbers %d", what, c.what, took, once)
			}
		}
	}
}

// soon fails where a call takes long.
func soon(t *testing.T, what string, call func()) {
	t.Helper()
	done := make(chan struct{})
	go func() {
		defer close(done)
		call()
	}()
	select {
	case <-done:
	case <-time.After(20 * time.Second):
		t.Fatal(what, "takes too long")
	}
}

// P1: calls end and none panics, of as many numbers as a text may have lines, and of one more.
func TestEndsSoon(t *testing.T) {
	const most, many = api.MaxBytes, 1 << 20
	for _, c := range []struct {
		what string
		pair func() ([]int, []int)
		want []api.Change
	}{
		{"nothing to much", func() ([]int, []int) { return nil, rising(0, most) }, []api.Change{{M: most}}},
		{"much to nothing", func() ([]int, []int) { return rising(0, most), nil }, []api.Change{{N: most}}},
		{"alike", func() ([]int, []int) { return rising(0, most), rising(0, most) }, nil},
		{"nothing in common", func() ([]int, []int) { return rising(0, most), rising(most, most) }, []api.Change{{N: most, M: most}}},
		{"one number out", func() ([]int, []int) { return rising(0, most), with(rising(0, 999), rising(1000, most-1000)) }, []api.Change{{A: 999, N: 1, B: 999}}},
		{"the first one to the end", func() ([]int, []int) { return rising(0, many), with(rising(1, many-1), []int{0}) }, []api.Change{{N: 1}, {A: many, B: many - 1, M: 1}}},
		{"one of many", func() ([]int, []int) { return []int{7}, rising(0, most) }, []api.Change{{M: 7}, {A: 1, B: 8, M: most - 8}}},
		{"beyond what a script may have", func() ([]int, []int) { return rising(0, most+1), rising(1, most+2) }, []api.Change{{N: 1}, {A: most + 1, B: most, M: 2}}},
	} {
		soon(t, c.what, func() {
			a, b := c.pair()
			if s := Diff(a, b); !slices.Equal(s, c.want) {
				t.Error(c.what, s[:min(len(s), 9)])
			}
			if d, both := Distance(a, b), Common(a, b); d != deleted(c.want) || 2*both != len(a)+len(b)-d {
				t.Error(c.what, d, both)
			}
		})
	}
	soon(t, "one number, more and less often", func() {
		a, b := make([]int, most), make([]int, 1000)
		holds(t, a, b, most-1000)
	})
	soon(t, "few to many", func() {
		next := steps(29)
		few, row := next.thrown(30, 3), next.thrown(many, 3)
		d := len(few) + len(row) - 2*tableCommon(row, few)
		holds(t, few, row, d)
		holds(t, row, few, d)
	})
}

// P1: no call panics, whatever rows it is given.
func TestNothingPanics(t *testing.T) {
	all := append(rows(3, 2), nil, []int{}, []int{math.MinInt}, []int{math.MaxInt, math.MinInt, math.MaxInt}, make([]int, 1000), rising(math.MaxInt-5, 10), rising(-500, 1000))
	for _, a := range all {
		for _, b := range all {
			isScript(t, Diff(a, b), a, b)
			if d := Distance(a, b); 2*Common(a, b)+d != len(a)+len(b) {
				t.Error(a, b, d)
			}
		}
	}
}
