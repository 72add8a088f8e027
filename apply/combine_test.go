package apply

import (
	"errors"
	"fmt"
	"math"
	"selvage/api"
	"selvage/edits"
	"selvage/hunks"
	"slices"
	"testing"
)

// sameHunk tells whether two hunks are the same.
func sameHunk(x, y api.Hunk) bool {
	return x.A == y.A && x.N == y.N && x.B == y.B && x.M == y.M && x.Head == y.Head && slices.Equal(x.Rows, y.Rows)
}

// combined is a call of Combine as a test tells it.
func combined(old []string, first, second []api.Hunk, context int) string {
	return fmt.Sprintf("%.200q, %.400q and %.400q, context %d", fmt.Sprint(old), fmt.Sprint(first), fmt.Sprint(second), context)
}

// combines fails where Combine of hunks, of a text told by its letters, does not answer the hunks that are wanted.
func combines(t *testing.T, old string, first, second []api.Hunk, context int, want ...api.Hunk) {
	t.Helper()
	got, err := Combine(textOf(old), first, second, context)
	if err != nil || !slices.EqualFunc(got, want, sameHunk) {
		t.Errorf("%s: %q, %v, not %q", combined(textOf(old), first, second, context), fmt.Sprint(got), err, fmt.Sprint(want))
	}
}

// combinesNot fails where Combine does not answer the error that is wanted, and nothing beside it.
func combinesNot(t *testing.T, old []string, first, second []api.Hunk, context int, want error) {
	t.Helper()
	got, err := Combine(old, first, second, context)
	if !errors.Is(err, want) || len(got) > 0 {
		t.Errorf("%s: %q, %v, not %v", combined(old, first, second, context), fmt.Sprint(got), err, want)
	}
}

// AP5: nothing first, nothing second, nothing at all.
func TestCombineWithNothing(t *testing.T) {
	l := []api.Hunk{hunk(1, 1, " a", "-b", "+x", " c"), hunk(5, 5, " e", "+y")}
	for _, none := range [][]api.Hunk{nil, {}} {
		for _, old := range []string{"", "a", "abc|"} {
			for _, context := range []int{0, 3, api.MaxNumber} {
				combines(t, old, none, none, context)
			}
		}
		for _, two := range [][2][]api.Hunk{{l, none}, {none, l}} {
			combines(t, "abcdef", two[0], two[1], 0, hunk(2, 2, "-b", "+x"), hunk(5, 6, "+y"))
			combines(t, "abcdef", two[0], two[1], 1, hunk(1, 1, " a", "-b", "+x", " c"), hunk(5, 5, " e", "+y", " f"))
			for _, context := range []int{2, 4, api.MaxNumber} {
				combines(t, "abcdef", two[0], two[1], context, hunk(1, 1, " a", "-b", "+x", " c", " d", " e", "+y", " f"))
			}
		}
	}
}

// AP5: changes apart from one another, that meet, and of the same lines.
func TestCombine(t *testing.T) {
	first := one(hunk(2, 2, "-b", "+x", "+y"))
	// apart: behind, where the lines have other numbers by then, and ahead
	combines(t, "abcdef", first, one(hunk(6, 6, "-e", "+z")), 0, hunk(2, 2, "-b", "+x", "+y"), hunk(5, 6, "-e", "+z"))
	combines(t, "abcdef", one(hunk(5, 5, "-e", "+z")), first, 0, hunk(2, 2, "-b", "+x", "+y"), hunk(5, 6, "-e", "+z"))
	combines(t, "abcdef", first, one(hunk(6, 6, "-e", "+z")), 1, hunk(1, 1, " a", "-b", "+x", "+y", " c", " d", "-e", "+z", " f"))
	// meeting, behind and ahead
	combines(t, "abcdef", first, one(hunk(4, 4, "-c", "+z")), 0, hunk(2, 2, "-b", "-c", "+x", "+y", "+z"))
	combines(t, "abcdef", first, one(hunk(1, 0, "-a")), 0, hunk(1, 1, "-a", "-b", "+x", "+y"))
	combines(t, "abcdef", first, one(hunk(3, 4, "+z")), 1, hunk(1, 1, " a", "-b", "+x", "+y", "+z", " c"))
	// what came goes again, in part and whole
	combines(t, "abcdef", first, one(hunk(2, 1, "-x")), 0, hunk(2, 2, "-b", "+y"))
	combines(t, "abcdef", first, one(hunk(2, 2, "-x", "+p", " y", "+q")), 0, hunk(2, 2, "-b", "+p", "+y", "+q"))
	combines(t, "abcdef", first, one(hunk(2, 1, "-x", "-y")), 0, hunk(2, 1, "-b"))
	combines(t, "abcdef", first, one(hunk(1, 1, " a", "-x", "-y", "-c", "+p")), 0, hunk(2, 2, "-b", "-c", "+p"))
	combines(t, "a", one(hunk(1, 0, "-a")), one(hunk(0, 1, "+x|")), 3, hunk(1, 1, "-a", "+x|"))
	// several changes, the second ones within the first ones and between them
	several := []api.Hunk{hunk(1, 1, "-a", "+p", "+q"), hunk(6, 7, "-f", "+r", "+s")}
	combines(t, "abcdef", several, []api.Hunk{hunk(2, 1, "-q"), hunk(4, 2, "-c"), hunk(7, 6, "+t")}, 0,
		hunk(1, 1, "-a", "+p"), hunk(3, 2, "-c"), hunk(6, 5, "-f", "+r", "+t", "+s"))
}

// AP5: changes that undo one another: lines that came go, those that went come.
func TestCombineUndone(t *testing.T) {
	for context := range 4 {
		combines(t, "abc", one(hunk(1, 2, "+x", "+y")), one(hunk(2, 1, "-x", "-y")), context)
		combines(t, "", one(hunk(0, 1, "+x|")), one(hunk(1, 0, "-x|")), context)
	}
	// a line that went and comes is none that stays
	combines(t, "abc", one(hunk(2, 1, "-b")), one(hunk(1, 2, "+b")), 0, hunk(2, 2, "-b", "+b"))
	combines(t, "abc|", one(hunk(3, 3, "-c|", "+c")), one(hunk(3, 3, "-c", "+c|")), 1, hunk(2, 2, " b", "-c|", "+c|"))
	l := []api.Hunk{hunk(1, 1, "-a", "+x"), hunk(3, 4, "+y")}
	combines(t, "abcd", l, turned(l), 0, hunk(1, 1, "-a", "+a"))
	combines(t, "abcd", l[1:], one(hunk(4, 3, "-y")), 0)
}

// AP5: each error of each step.
func TestCombineErrors(t *testing.T) {
	old, first, second := textOf("abc"), one(hunk(1, 1, "-a", "+x")), one(hunk(3, 3, "-c", "+z"))
	for _, l := range notLines() {
		combinesNot(t, l, nil, nil, 0, api.ErrLine)
		combinesNot(t, l, first, second, 0, api.ErrLine)
	}
	for _, bad := range badHunks() {
		combinesNot(t, old, one(bad), second, 0, api.ErrHunk)
		combinesNot(t, old, append(one(bad), first...), second, 0, api.ErrHunk)
		combinesNot(t, old, first, one(bad), 0, api.ErrHunk)
		combinesNot(t, old, first, append(one(bad), second...), 0, api.ErrHunk)
	}
	for _, c := range []struct {
		h    api.Hunk // of a text abc
		want error
	}{
		{hunk(1, 1, " a", "+x|"), api.ErrLine},
		{hunk(0, 1, "+x|"), api.ErrLine},
		{hunk(2, 2, "-q", "+x"), api.ErrMiss},
		{hunk(1, 1, " a", " q", "-c"), api.ErrMiss},
		{hunk(1, 1, "-b", "+x"), api.ErrMiss},
		{hunk(3, 3, "-b", "+x"), api.ErrMiss},
		{hunk(4, 5, "+x"), api.ErrMiss},
		{hunk(2, 3, "-b", "+x"), api.ErrOrder},
		{hunk(2, 1, "-b", "+x"), api.ErrOrder},
		{hunk(3, 3, "+x"), api.ErrOrder},
		{hunk(2, 2, "-b"), api.ErrOrder},
	} {
		combinesNot(t, old, one(c.h), nil, 0, c.want)
		combinesNot(t, old, nil, one(c.h), 0, c.want)
		// behind one that stands there
		ahead := hunk(0, 1, "+p")
		moved := c.h
		moved.B++
		combinesNot(t, old, []api.Hunk{ahead, moved}, nil, 0, c.want)
		moved.A++
		combinesNot(t, old, one(ahead), one(moved), 0, c.want)
	}
	for _, context := range []int{math.MinInt, -1, api.MaxNumber + 1, math.MaxInt} {
		combinesNot(t, old, first, second, context, api.ErrArg)
		combinesNot(t, old, nil, nil, context, api.ErrArg)
		combinesNot(t, nil, nil, nil, context, api.ErrArg)
	}
}

// AP5: hunks that are found, but are more than edit scripts have lines for.
func TestCombineOfTooManyLines(t *testing.T) {
	most := slices.Repeat([]string{"\n"}, api.MaxBytes)
	more := api.Hunk{A: 0, B: 1, M: 1, Rows: []api.Row{{Kind: api.RowNew, Text: "\n"}}}
	combinesNot(t, append(most, "\n"), nil, nil, 0, api.ErrEdit)
	combinesNot(t, append(most, "\n"), one(hunks.Reverse(more)), nil, 0, api.ErrEdit)
	combinesNot(t, most, one(more), nil, 0, api.ErrEdit)
	combinesNot(t, most, one(more), one(hunks.Reverse(more)), -1, api.ErrEdit)
	combinesNot(t, most, nil, one(more), 0, api.ErrEdit)
	// with one line less between two that are not too long
	got, err := Combine(most, one(hunks.Reverse(more)), one(more), 0)
	want := ofRows(1, api.Row{Kind: api.RowOld, Text: "\n"}, api.Row{Kind: api.RowNew, Text: "\n"})
	if err != nil || len(got) != 1 || !sameHunk(got[0], want) {
		t.Errorf("%d hunks, %v", len(got), err)
	}
}

// AP5: of the errors of two steps, and of two of one step, that of the step ahead.
func TestCombineErrorsInTheirOrder(t *testing.T) {
	type option struct {
		l    []api.Hunk
		step int // at which it fails
		want error
	}
	old := textOf("abc")
	firsts := []option{
		{one(hunk(1, 1, "-a", "+x")), 9, nil},
		{[]api.Hunk{{}, hunk(1, 1, "-q")}, 1, api.ErrHunk},
		{[]api.Hunk{hunk(0, 1, "+x|"), hunk(1, 1, "-q")}, 1, api.ErrLine},
		{[]api.Hunk{hunk(1, 5, "-a", "+x"), hunk(1, 1, "-q")}, 1, api.ErrMiss},
		{[]api.Hunk{hunk(1, 5, "-b", "+x")}, 1, api.ErrMiss},
		{one(hunk(1, 2, "-a", "+x")), 3, api.ErrOrder},
	}
	seconds := []option{
		{one(hunk(3, 3, "-c", "+z")), 9, nil},
		{[]api.Hunk{{}, hunk(1, 1, "-q")}, 2, api.ErrHunk},
		{[]api.Hunk{hunk(0, 1, "+z|"), hunk(1, 1, "-q")}, 2, api.ErrLine},
		{[]api.Hunk{hunk(3, 5, "-c", "+z"), hunk(1, 1, "-q")}, 2, api.ErrMiss},
		{[]api.Hunk{hunk(1, 5, "-c", "+z")}, 2, api.ErrMiss},
		{one(hunk(3, 2, "-c", "+z")), 4, api.ErrOrder},
	}
	for _, first := range firsts {
		for _, second := range seconds {
			for _, context := range []int{0, -1} {
				at, want := 5, error(nil)
				if context < 0 {
					want = api.ErrArg
				}
				for _, o := range []option{first, second} {
					if o.step < at {
						at, want = o.step, o.want
					}
				}
				if want != nil {
					combinesNot(t, old, first.l, second.l, context, want)
				} else {
					combines(t, "abc", first.l, second.l, context, hunk(1, 1, "-a", "+x"), hunk(3, 3, "-c", "+z"))
				}
			}
		}
	}
}

// joins fails where Combine of the hunks of two scripts, from a to b and from b to c, is not what AP5 says, or does not make c.
func joins(t *testing.T, a, b, c []string, first, second []api.Hunk, context int) {
	t.Helper()
	s, err := hunks.Script(first, len(a), len(b))
	isErr(t, "Script", err, nil)
	u, err := hunks.Script(second, len(b), len(c))
	isErr(t, "Script", err, nil)
	both, err := edits.Join(s, u, len(a), len(b), len(c))
	isErr(t, "Join", err, nil)
	want := built(t, both, a, c, context)
	got, err := Combine(a, first, second, context)
	if err != nil || !slices.EqualFunc(got, want, sameHunk) {
		t.Fatalf("%s: %q, %v, not %q", combined(a, first, second, context), fmt.Sprint(got), err, fmt.Sprint(want))
	}
	for _, fuzz := range []int{0, api.MaxFuzz} {
		if done := apply(a, got, fuzz); !done.same(answer{lines: c, hits: exact(got)}) {
			t.Fatalf("%s: %q makes %v, not %q", combined(a, first, second, context), fmt.Sprint(got), done, c)
		}
	}
}

// AP5, AP6: all scripts between all small texts, with each small context of the first hunks, of the second ones, and of those that are answered.
func TestCombineOfAllSmall(t *testing.T) {
	each := func(texts [][]string, take func(a, b, c []string, s, u []api.Change)) {
		for _, a := range texts {
			for _, b := range texts {
				eachScript(a, b, func(s []api.Change) {
					for _, c := range texts {
						eachScript(b, c, func(u []api.Change) { take(a, b, c, s, u) })
					}
				})
			}
		}
	}
	each(smallTexts("ab", 2, true), func(a, b, c []string, s, u []api.Change) {
		for contexts := range 27 {
			joins(t, a, b, c, built(t, s, a, b, contexts%3), built(t, u, b, c, contexts/3%3), contexts/9)
		}
	})
	n := 0
	each(smallTexts("ab", 3, false), func(a, b, c []string, s, u []api.Change) {
		n++
		joins(t, a, b, c, built(t, s, a, b, n%4), built(t, u, b, c, n/4%4), n/16%5)
	})
}

// inPieces are hunks, some of which are cut in two.
func (s *steps) inPieces(l []api.Hunk) []api.Hunk {
	var pieces []api.Hunk
	for _, h := range l {
		two, err := hunks.Split(h, 1+s.below(len(h.Rows)))
		if err != nil {
			two = one(h)
		}
		pieces = append(pieces, two...)
	}
	return pieces
}

// AP5, AP6: longer texts, also of hunks that touch.
func TestCombineOfMany(t *testing.T) {
	next := steps(5)
	cut := 0
	for range 10000 {
		kinds := 1 + next.below(26)
		a := next.someText(60, kinds)
		b, s := next.change(a, kinds)
		c, u := next.change(b, kinds)
		first, second := built(t, s, a, b, next.below(4)), built(t, u, b, c, next.below(4))
		joins(t, a, b, c, first, second, next.below(5))
		pieces := next.inPieces(first)
		cut += len(pieces) - len(first)
		joins(t, a, b, c, pieces, next.inPieces(second), next.below(5))
	}
	if cut < 1000 {
		t.Error(cut, "are cut")
	}
}
