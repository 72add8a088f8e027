package patience

import (
	"math"
	"selvage/api"
	"slices"
	"testing"
	"time"
)

// roomy is a row with spare room behind it, all of it filled.
func roomy(row []int) []int {
	return append(slices.Clone(row), 77, 78, 79)[:len(row)]
}

// isRoomy tells whether a roomy row and the room behind it are as they were.
func isRoomy(row, was []int) bool {
	return slices.Equal(row[:len(row)+3], append(slices.Clone(was), 77, 78, 79))
}

// somePairs are rows with much and with little in common, with anchors, without, and with pieces within pieces.
func somePairs() [][2][]int {
	next := steps(17)
	long := next.thrown(300, 200)
	a, b, _ := nested(40)
	return [][2][]int{
		{nil, nil},
		{nil, {5, 6}},
		{{5, 6}, nil},
		{{1, 2, 3}, {1, 3}},
		{{1, 2, 3}, {1, 2, 3}},
		{{1, 2, 3}, {4, 5}},
		{{1, 2, 3, 2}, {3, 1, 4}},
		{{7, 7, 1, 8, 9}, {1, 7, 7, 9}},
		{{1, 2, 77, 3}, {77, 3, 1, 2}},
		{{1, 1, 2, 2, 2}, {2, 2, 2, 1, 1, 1}},
		{long, next.touched(long, 10, 200)},
		{long, next.mixed(long)},
		{a, b},
	}
}

// scrawl writes into all of a list, the spare room too.
func scrawl[E any](list []E, what E) {
	list = list[:cap(list)]
	for i := range list {
		list[i] = what
	}
}

// P2: what is handed in stays as it is, the room behind it too.
func TestRowsStay(t *testing.T) {
	for _, p := range somePairs() {
		a, b := roomy(p[0]), roomy(p[1])
		Anchors(a, b)
		Diff(a, b)
		Rising(a)
		Rising(b)
		if !isRoomy(a, p[0]) || !isRoomy(b, p[1]) {
			t.Errorf("%v, %v are now %v, %v", p[0], p[1], a[:len(a)+3], b[:len(b)+3])
		}
	}
}

// P2: one row may be both, or share its memory with the other one.
func TestRowsThatShare(t *testing.T) {
	row := with(upward(0, 50), upward(20, 50), upward(10, 30))
	holds(t, row, row)
	anchored(t, row, row, plainAnchors(row, row))
	for _, at := range []int{1, 20, 50, 99} {
		for _, p := range [][2][]int{{row[:at], row[at:]}, {row, row[at:]}, {row[:at], row}} {
			holds(t, p[0], p[1])
			anchored(t, p[0], p[1], plainAnchors(p[0], p[1]))
		}
	}
}

// P2: what the caller writes into an answer, and into the room behind it, is met by no row, no other answer and no later call; and what it writes into the rows by no answer.
func TestAnswersAreTheCallers(t *testing.T) {
	for _, p := range somePairs() {
		a, b := slices.Clone(p[0]), slices.Clone(p[1])
		anchors, row, script := Anchors(a, b), Rising(a), Diff(a, b)
		otherAnchors, otherRow, otherScript := Anchors(a, b), Rising(a), Diff(a, b)
		wasAnchors, wasRow, wasScript := slices.Clone(anchors), slices.Clone(row), slices.Clone(script)
		scrawl(anchors, [2]int{66, 66})
		scrawl(row, 66)
		scrawl(script, api.Change{A: 66, N: 66, B: 66, M: 66})
		if !slices.Equal(a, p[0]) || !slices.Equal(b, p[1]) {
			t.Errorf("rows %v, %v: now %v, %v", p[0], p[1], a, b)
		}
		if again := Anchors(a, b); !slices.Equal(again, wasAnchors) {
			t.Errorf("%v, %v: anchors %v, then %v", a, b, wasAnchors, again)
		}
		if again := Rising(a); !slices.Equal(again, wasRow) {
			t.Errorf("%v: %v, then %v", a, wasRow, again)
		}
		if again := Diff(a, b); !slices.Equal(again, wasScript) {
			t.Errorf("%v, %v: %v, then %v", a, b, wasScript, again)
		}
		scrawl(a, 55)
		scrawl(b, 55)
		if !slices.Equal(otherAnchors, wasAnchors) || !slices.Equal(otherRow, wasRow) || !slices.Equal(otherScript, wasScript) {
			t.Errorf("%v, %v: an answer has changed", p[0], p[1])
		}
	}
}

// P2: nil and the empty row are the same.
func TestNilIsEmpty(t *testing.T) {
	for _, a := range [][]int{nil, {}} {
		if got := Rising(a); len(got) != 0 {
			t.Error(got)
		}
		for _, b := range [][]int{nil, {}, {3}, {3, 3, 4}} {
			holds(t, a, b)
			holds(t, b, a)
			anchored(t, a, b, nil)
			anchored(t, b, a, nil)
		}
	}
}

// PN3, P2: the same answers when asked again, with other calls between, and at the same time.
func TestCallsStandAlone(t *testing.T) {
	next := steps(19)
	a, b := next.thrown(400, 150), next.thrown(380, 150)
	anchors, row, script := Anchors(a, b), Rising(a), Diff(a, b)
	same := func() bool {
		return slices.Equal(Anchors(a, b), anchors) && slices.Equal(Rising(a), row) && slices.Equal(Diff(a, b), script)
	}
	for range 20 {
		Diff(next.thrown(90, 30), next.thrown(500, 200))
		Anchors(b, a)
		Rising(b)
		if !same() || !slices.Equal(Diff(roomy(a), slices.Clone(b)), script) {
			t.Fatal("again it is another answer")
		}
	}
	done := make(chan bool)
	for range 8 {
		go func() { done <- same() }()
	}
	for range 8 {
		if !<-done {
			t.Error("at the same time it is another answer")
		}
	}
}

// P1: no call panics, whatever rows it is given.
func TestNothingPanics(t *testing.T) {
	all := append(rows(3, 2), nil, []int{}, []int{math.MinInt}, []int{math.MaxInt, math.MinInt, math.MaxInt}, make([]int, 1000), upward(math.MaxInt-5, 10), upward(-500, 1000), turned(upward(-500, 1000)))
	for _, a := range all {
		risen(t, a, plainRising(a))
		for _, b := range all {
			holds(t, a, b)
		}
	}
}

// soon fails where a call takes long.
func soon(t *testing.T, what string, call func()) {
	t.Helper()
	done := make(chan struct{})
	go func() {
		defer close(done)
		call()
	}()
	select {
	case <-done:
	case <-time.After(60 * time.Second):
		t.Fatal(what, "takes too long")
	}
}

// P1, PN3: pieces that lie within one another tens of thousands of times neither overflow a stack nor are gone through from end to end each time.
func TestDeepPiecesEndSoon(t *testing.T) {
	const depth = 1 << 17
	soon(t, "nested", func() {
		a, b, want := nested(depth)
		if got := Diff(a, b); !slices.Equal(got, want) {
			t.Error("nested:", len(got), "changes")
		}
		a, b = turned(a), turned(b)
		if got := Diff(a, b); len(got) != depth+2 {
			t.Error("turned:", len(got), "changes")
		}
	})
}

// P1, PN3: rows of as many numbers as a text may have lines, of few kinds and of many.
func TestLongRowsEndSoon(t *testing.T) {
	const most, few = api.MaxBytes, 1 << 18
	next := steps(23)
	soon(t, "alike", func() {
		row := next.thrown(most, 9)
		if got := Diff(row, slices.Clone(row)); len(got) != 0 {
			t.Error("alike:", len(got))
		}
	})
	soon(t, "one number, more and less often", func() {
		if got := Diff(make([]int, most), make([]int, 1000)); !slices.Equal(got, []api.Change{{A: 1000, N: most - 1000, B: 1000}}) {
			t.Error("one number:", len(got))
		}
	})
	soon(t, "mixed", func() {
		row := upward(0, few)
		other := next.mixed(row)
		s := Diff(row, other)
		stay := 0
		for _, y := range isScript(t, s, row, other) {
			if y >= 0 {
				stay++
			}
		}
		// no number stands twice, so that those that stay are a longest rising row of places
		at := make([]int, few)
		for y, v := range other {
			at[v] = y
		}
		if most := len(Rising(at)); stay != most {
			t.Error("mixed:", stay, "stay, not", most)
		}
	})
	soon(t, "almost alike", func() {
		row := next.thrown(few, few/4)
		other := next.touched(row, 100, few/4)
		isScript(t, Diff(row, other), row, other)
	})
}
