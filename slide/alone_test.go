package slide

import (
	"selvage/api"
	"selvage/edits"
	"slices"
	"testing"
	"time"
)

// roomy is a list with spare room behind it, all of it filled.
func roomy[T any](list []T, spare T) []T {
	return append(slices.Clone(list), spare, spare, spare)[:len(list)]
}

// isRoomy tells whether a roomy list and the room behind it are as they were.
func isRoomy[T comparable](list, was []T, spare T) bool {
	return slices.Equal(list[:len(list)+3], append(slices.Clone(was), spare, spare, spare))
}

// scrawl writes into all of a list, the spare room too.
func scrawl[T any](list []T, what T) {
	list = list[:cap(list)]
	for i := range list {
		list[i] = what
	}
}

// odd is a change that is none of the scripts'.
var odd = api.Change{A: 77, N: 77, B: 77, M: 77}

// handed is a script, and what it is between.
type handed struct {
	s    []api.Change
	a, b []int
	old  []string
	come []string
}

// named are the numbers of a row as lines, some of them blank.
func named(row []int) []string {
	names := []string{"\n", "x\n", " ", "y\n"}
	list := make([]string, len(row))
	for i, v := range row {
		list[i] = names[v%len(names)]
	}
	return list
}

// someHanded are scripts that slide and do not, meet and do not, are normal and are not, and some with an error.
func someHanded() []handed {
	next := steps(3)
	long := next.repeated(300, 3)
	s, made := next.changed(long, 4, 4)
	var all []handed
	for _, h := range []handed{
		{},
		{a: []int{1, 2}, b: []int{1, 2}},
		{s: script([4]int{1, 1, 1, 0}), a: []int{1, 2, 2, 3}, b: []int{1, 2, 3}},
		{s: script([4]int{0, 2, 0, 0}), a: []int{1, 0, 3, 2}, b: []int{3, 2}},
		{s: script([4]int{0, 0, 0, 2}), a: []int{1, 2, 3}, b: []int{1, 2, 1, 2, 3}},
		{s: script([4]int{0, 1, 0, 0}, [4]int{2, 1, 1, 0}), a: []int{1, 1, 1, 1}, b: []int{1, 1}},
		{s: script([4]int{0, 1, 0, 0}, [4]int{1, 1, 0, 0}), a: []int{1, 2, 1, 2, 3}, b: []int{1, 2, 3}},
		{s: s, a: long, b: made},
		{s: script([4]int{0, 1, 0, 0}), a: []int{1, 2}, b: []int{1}},
		{s: script([4]int{0, 0, 0, 0}), a: []int{1, 2}, b: []int{1, 2}},
	} {
		h.old, h.come = named(h.a), named(h.b)
		all = append(all, h)
	}
	return all
}

// P2: what is handed in stays as it is, the room behind it too, whatever the caller does with what it was given.
func TestArgumentsStay(t *testing.T) {
	for _, h := range someHanded() {
		s, a, b := roomy(h.s, odd), roomy(h.a, 77), roomy(h.b, 77)
		old, come := roomy(h.old, "spare"), roomy(h.come, "spare")
		slid, _ := Slide(s, a, b)
		kept, _ := Blanks(s, old, come)
		scrawl(slid, api.Change{A: 66})
		scrawl(kept, api.Change{A: 66})
		if !isRoomy(s, h.s, odd) || !isRoomy(a, h.a, 77) || !isRoomy(b, h.b, 77) || !isRoomy(old, h.old, "spare") || !isRoomy(come, h.come, "spare") {
			t.Errorf("%v of %v, %v: now %v of %v, %v, with lines %q, %q", h.s, h.a, h.b, s, a, b, old, come)
		}
	}
}

// P2: what the caller writes into an answer, and into the room behind it, is met by no other answer and no later call; and what it writes into what it handed in by no answer.
func TestAnswersAreTheCallers(t *testing.T) {
	for _, h := range someHanded() {
		slid, slidErr := Slide(h.s, h.a, h.b)
		kept, keptErr := Blanks(h.s, h.old, h.come)
		otherSlid, _ := Slide(h.s, h.a, h.b)
		otherKept, _ := Blanks(h.s, h.old, h.come)
		wasSlid, wasKept := slices.Clone(slid), slices.Clone(kept)
		scrawl(slid, odd)
		scrawl(kept, odd)
		if again, err := Slide(h.s, h.a, h.b); !slices.Equal(again, wasSlid) || err != slidErr {
			t.Errorf("%v, %v, then %v, %v", wasSlid, slidErr, again, err)
		}
		if again, err := Blanks(h.s, h.old, h.come); !slices.Equal(again, wasKept) || err != keptErr {
			t.Errorf("%v, %v, then %v, %v", wasKept, keptErr, again, err)
		}
		scrawl(h.s, odd)
		scrawl(h.a, 55)
		scrawl(h.b, 55)
		scrawl(h.old, "55")
		scrawl(h.come, "55")
		if !slices.Equal(otherSlid, wasSlid) || !slices.Equal(otherKept, wasKept) {
			t.Errorf("%v and %v have become %v and %v", wasSlid, wasKept, otherSlid, otherKept)
		}
	}
}

// P2: rows may be one, or share their memory.
func TestRowsThatShare(t *testing.T) {
	row := []int{1, 2, 1, 2, 1, 2, 1, 2}
	s := script([4]int{0, 2, 0, 0})
	slides(t, s, row, row[2:], script([4]int{6, 2, 6, 0}))
	slides(t, s, row, row[:6], script([4]int{6, 2, 6, 0}))
	slides(t, script([4]int{0, 1, 0, 1}), row, row, script([4]int{0, 1, 0, 1}))
	slides(t, nil, row, row, nil)
}

// P2: answers hang on the arguments alone: the same call, with others between, and at the same time, answers the same.
func TestCallsStandAlone(t *testing.T) {
	next := steps(13)
	a := next.repeated(400, 2)
	s, b := next.changed(a, 5, 5)
	old, come := named(a), named(b)
	slid, err := Slide(s, a, b)
	kept, other := Blanks(s, old, come)
	if err != nil || other != nil {
		t.Fatal(err, other)
	}
	same := func() bool {
		again, err := Slide(s, a, b)
		still, other := Blanks(s, old, come)
		return slices.Equal(again, slid) && slices.Equal(still, kept) && err == nil && other == nil
	}
	for range 20 {
		c := next.repeated(300, 3)
		u, d := next.changed(c, 3, 4)
		keeps(t, u, c, d)
		if !same() {
			t.Fatal("again it is another answer")
		}
	}
	done := make(chan bool)
	for range 8 {
		go func() { done <- same() }()
	}
	for range 8 {
		if !<-done {
			t.Error("at the same time it is another answer")
		}
	}
}

// P1: neither call panics, whatever it is given.
func TestNothingPanics(t *testing.T) {
	numbers := []int{-1 << 63, -1, 0, 1, 2, 3, 1<<63 - 1}
	var all []api.Change
	for _, a := range numbers {
		for _, n := range numbers {
			for _, b := range numbers {
				for _, m := range numbers {
					all = append(all, api.Change{A: a, N: n, B: b, M: m})
				}
			}
		}
	}
	rows := [][]int{nil, {4}, {4, 4}, {4, 5, 4}}
	for i, c := range all {
		for _, s := range [][]api.Change{{c}, {c, all[(i*31+7)%len(all)]}, {c, c}} {
			for _, a := range rows {
				for _, b := range rows {
					Slide(s, a, b)
					Blanks(s, named(a), named(b))
				}
			}
		}
	}
}

// soon fails where a call takes long.
func soon(t *testing.T, what string, call func()) {
	t.Helper()
	done := make(chan struct{})
	go func() {
		defer close(done)
		call()
	}()
	select {
	case <-done:
	case <-time.After(30 * time.Second):
		t.Fatal(what, "takes too long")
	}
}

// everyOther is a script that takes a block of so many numbers out of a row of n, lets as many stay, and so on.
func everyOther(n, block int) []api.Change {
	var s []api.Change
	for at := 0; at+2*block <= n; at += 2 * block {
		s = append(s, api.Change{A: at, N: block, B: at / 2})
	}
	return s
}

// slidesFar is slides for rows that are too long to be told.
func slidesFar(t *testing.T, s []api.Change, a, b []int, want []api.Change) {
	t.Helper()
	got, err := Slide(s, a, b)
	if err != nil || !slices.Equal(got, want) {
		t.Errorf("%d changes: %d, from %v on, %v, not %d", len(s), len(got), got[:min(3, len(got))], err, len(want))
	}
}

// keptOf is a check of Blanks for lists that are too long to be told.
func keptOf(t *testing.T, s []api.Change, a, b []string, want []api.Change) {
	t.Helper()
	got, err := Blanks(s, a, b)
	if err != nil || !slices.Equal(got, want) {
		t.Errorf("%d changes: %d are left, %v, not %d", len(s), len(got), err, len(want))
	}
}

// P1, SL1: rows of as many numbers as a text may have lines, in which thousands and more of changes slide over what others slid over.
func TestLongRowsEndSoon(t *testing.T) {
	const most = api.MaxBytes
	for _, kinds := range []int{1, 2, 3} {
		// Blocks of 6 numbers slide over the row, whether 1, 2 or 3 numbers are repeated in it.
		row := make([]int, most)
		for i := range row {
			row[i] = i % kinds
		}
		for _, block := range []int{kinds, 6} {
			soon(t, "a row of few kinds", func() {
				s := everyOther(most, block)
				gone := len(s) * block
				slidesFar(t, s, row, row[:most-gone], script([4]int{most - gone, gone, most - gone, 0}))
				slidesFar(t, edits.Invert(s), row[:most-gone], row, script([4]int{most - gone, 0, most - gone, gone}))
			})
		}
	}
	soon(t, "blocks of many lengths", func() {
		var s []api.Change
		gone := 0
		for n := 1; n <= 200; n++ {
			s = append(s, api.Change{A: gone + n, N: n, B: n})
			gone += n
		}
		ones := make([]int, most)
		slidesFar(t, s, ones, ones[:most-gone], script([4]int{most - gone, gone, most - gone, 0}))
	})
	soon(t, "no one alike", func() {
		row := make([]int, most)
		var s []api.Change
		var left []int
		for i := range row {
			row[i] = i
			if i%2 == 0 {
				s = append(s, api.Change{A: i, N: 1, B: len(left)})
			} else {
				left = append(left, i)
			}
		}
		slidesFar(t, s, row, left, s)
	})
	soon(t, "blank lines", func() {
		lines := make([]string, most)
		lines[most-2] = "x\n"
		s := everyOther(most, 2)
		keptOf(t, s, lines, lines[:most/2], nil)
		lines[most-3] = "x\n"
		keptOf(t, s, lines, make([]string, most/2), s[len(s)-1:])
	})
}
