package hunks

import (
	"fmt"
	"math"
	"selvage/api"
	"selvage/edits"
	"slices"
	"testing"
)

// hasSides fails where the sides of a hunk are not those that are wanted.
func hasSides(t *testing.T, h api.Hunk, old, fresh []string) {
	t.Helper()
	gotOld, gotFresh := Sides(h)
	if !slices.Equal(gotOld, old) || !slices.Equal(gotFresh, fresh) {
		t.Errorf("%s: %q and %q, not %q and %q", shown(h), gotOld, gotFresh, old, fresh)
	}
}

// H5: the lines of both sides, of any hunk.
func TestSides(t *testing.T) {
	hasSides(t, hunk(2, 3, 2, 3, " a\n", "-b\n", "+c\n", " d\n"), []string{"a\n", "b\n", "d\n"}, []string{"a\n", "c\n", "d\n"})
	hasSides(t, hunk(1, 1, 0, 0, "-a"), []string{"a"}, nil)
	hasSides(t, hunk(0, 0, 1, 1, "+a"), nil, []string{"a"})
	// hunks that may not be
	hasSides(t, api.Hunk{}, nil, nil)
	hasSides(t, hunk(-5, 77, math.MinInt, math.MaxInt, "+a", "?b\n", " \n\n", "-", "-c\nd", "?"), []string{"\n\n", "", "c\nd"}, []string{"a", "\n\n"})
	for _, kind := range []int{math.MinInt, -1, 0, 4, 5, math.MaxInt} {
		hasSides(t, api.Hunk{N: 1, M: 1, Rows: []api.Row{{Kind: kind, Text: "x\n"}}}, nil, nil)
	}
}

// turnsTo fails where a hunk the other way round is not the one that is wanted.
func turnsTo(t *testing.T, h, want api.Hunk) {
	t.Helper()
	isHunk(t, shown(h), Reverse(h), nil, want)
}

// H5: hunks the other way round, also of those that may not be.
func TestReverse(t *testing.T) {
	turnsTo(t, api.Hunk{}, api.Hunk{})
	turnsTo(t, headed(hunk(1, 2, 3, 4), "f"), headed(hunk(3, 4, 1, 2), "f"))
	turnsTo(t, hunk(math.MinInt, -1, math.MaxInt, 9), hunk(math.MaxInt, 9, math.MinInt, -1))
	turnsTo(t, headed(hunk(2, 3, 5, 3, " a\n", "-b\n", "+c\n", " d"), "f\n"), headed(hunk(5, 3, 2, 3, " a\n", "-c\n", "+b\n", " d"), "f\n"))
	turnsTo(t, hunk(1, 1, 0, 0, "-a"), hunk(0, 0, 1, 1, "+a"))
	turnsTo(t, hunk(0, 0, 1, 1, "+a"), hunk(1, 1, 0, 0, "-a"))
	// each kind in its order
	turnsTo(t, hunk(1, 2, 1, 3, "-a\n", "-b\n", "+c\n", "+d\n", "+e\n"), hunk(1, 3, 1, 2, "-c\n", "-d\n", "-e\n", "+a\n", "+b\n"))
	turnsTo(t, hunk(1, 3, 1, 3, "-a\n", "+b\n", "-c\n", "+d\n", "-e\n", "+f\n"), hunk(1, 3, 1, 3, "-b\n", "-d\n", "-f\n", "+a\n", "+c\n", "+e\n"))
	turnsTo(t, hunk(1, 2, 1, 2, "+a\n", "+b\n", "-c\n", "-d\n"), hunk(1, 2, 1, 2, "-a\n", "-b\n", "+c\n", "+d\n"))
	// several runs, each by itself
	turnsTo(t, hunk(1, 4, 1, 4, "-a\n", "+b\n", " c\n", "-d\n", "+e\n", " f\n"), hunk(1, 4, 1, 4, "-b\n", "+a\n", " c\n", "-e\n", "+d\n", " f\n"))
	// rows of other kinds stay, and end a run
	turnsTo(t, hunk(1, 2, 1, 2, "-a\n", "?x", "+b\n", "-c\n", "?y", "?z", "+d\n"), hunk(1, 2, 1, 2, "+a\n", "?x", "-b\n", "+c\n", "?y", "?z", "-d\n"))
	turnsTo(t, hunk(0, 0, 0, 0, "?x", "?"), hunk(0, 0, 0, 0, "?x", "?"))
	for _, kind := range []int{math.MinInt, -1, 0, 4, 5, math.MaxInt} {
		odd := api.Row{Kind: kind, Text: "x\n"}
		turnsTo(t, api.Hunk{Rows: []api.Row{row("-a"), odd, row("+b")}}, api.Hunk{Rows: []api.Row{row("+a"), odd, row("-b")}})
	}
	// texts that are no lines
	turnsTo(t, hunk(1, 2, 1, 1, "-", "+a\nb", "-\n\n"), hunk(1, 1, 1, 2, "-a\nb", "+", "+\n\n"))
}

// plainTurned is Reverse as H5 says it: kinds are exchanged, and then, as long as a RowNew stands right ahead of a RowOld, these two are.
func plainTurned(h api.Hunk) api.Hunk {
	rows := slices.Clone(h.Rows)
	for i, r := range rows {
		if r.Kind == api.RowOld || r.Kind == api.RowNew {
			rows[i].Kind = api.RowOld + api.RowNew - r.Kind
		}
	}
	return api.Hunk{A: h.B, N: h.M, B: h.A, M: h.N, Head: h.Head, Rows: putInOrder(rows)}
}

// putInOrder are rows with those of RowOld ahead of those of RowNew in each run.
func putInOrder(rows []api.Row) []api.Row {
	rows = slices.Clone(rows)
	for i := 0; i+1 < len(rows); i++ {
		if rows[i].Kind == api.RowNew && rows[i+1].Kind == api.RowOld {
			rows[i], rows[i+1] = rows[i+1], rows[i]
			i = -1
		}
	}
	return rows
}

// H5, H6: all small hunks, once and twice turned.
func TestReverseOfAllSmall(t *testing.T) {
	for _, rows := range someRows(6, []int{1, 2, 3, 4}, []string{"x\n"}) {
		for i := range rows {
			rows[i].Text = fmt.Sprintln(i)
		}
		n, m := counts(rows)
		h := api.Hunk{A: 5, N: n, B: 7, M: m, Head: "f", Rows: rows}
		once := Reverse(h)
		isHunk(t, shown(h), once, nil, plainTurned(h))
		want := h
		want.Rows = putInOrder(rows)
		isHunk(t, shown(h)+", twice", Reverse(once), nil, want)
		old, fresh := Sides(h)
		hasSides(t, once, fresh, old)
		if mayBe(h) != mayBe(once) {
			t.Errorf("%s may be, or may not, unlike what it is turned to", shown(h))
		}
	}
}

// H6: a script's hunks, turned, are those of the inverted script.
func TestReverseIsInverted(t *testing.T) {
	check := func(s []api.Change, n, m int, cut bool) {
		a, b := between(s, n, m, false, cut, cut)
		if !sameStay(s, a, b) {
			return
		}
		for _, context := range []int{0, 1, 2, 5} {
			l, err := Build(s, a, b, context)
			isErr(t, fmt.Sprint(s), err, nil)
			for i := range l {
				l[i] = Reverse(l[i])
			}
			want, err := Build(edits.Invert(s), b, a, context)
			areHunks(t, fmt.Sprint(s, context), l, err, want)
			isErr(t, fmt.Sprint(s, context), Order(l), nil)
		}
	}
	for n := range 5 {
		for m := range 5 {
			for _, s := range scripts(n, m) {
				check(s, n, m, false)
				check(s, n, m, true)
			}
		}
	}
	next := steps(9)
	for range 50 {
		s, n, m := next.script(60)
		check(s, n, m, false)
		check(s, n, m, true)
	}
}
