package hunks

import (
	"errors"
	"fmt"
	"math"
	"selvage/api"
	"slices"
	"strings"
	"testing"
)

// row is a row by its mark and its line: ' ' RowBoth, '-' RowOld, '+' RowNew, '?' a kind that is none.
func row(text string) api.Row {
	kinds := []int{api.RowBoth, api.RowOld, api.RowNew, 7}
	return api.Row{Kind: kinds[strings.IndexByte(" -+?", text[0])], Text: text[1:]}
}

// hunk is a hunk by its four numbers, A, N, B, M, and its rows.
func hunk(a, n, b, m int, rows ...string) api.Hunk {
	h := api.Hunk{A: a, N: n, B: b, M: m}
	for _, text := range rows {
		h.Rows = append(h.Rows, row(text))
	}
	return h
}

// headed is a hunk with a heading.
func headed(h api.Hunk, head string) api.Hunk {
	h.Head = head
	return h
}

// script is changes by their four numbers each: A, N, B, M.
func script(numbers ...[4]int) []api.Change {
	var s []api.Change
	for _, c := range numbers {
		s = append(s, api.Change{A: c[0], N: c[1], B: c[2], M: c[3]})
	}
	return s
}

// counted are the lines 1 to n.
func counted(n int) []string {
	var l []string
	for i := 1; i <= n; i++ {
		l = append(l, fmt.Sprintln(i))
	}
	return l
}

// shown are hunks as a text, each row by its kind and its quoted line.
func shown(l ...api.Hunk) string {
	var b strings.Builder
	for _, h := range l {
		fmt.Fprintf(&b, "{%d,%d %d,%d %q:", h.A, h.N, h.B, h.M, h.Head)
		for _, r := range h.Rows {
			fmt.Fprintf(&b, " %d%q", r.Kind, r.Text)
		}
		b.WriteString("}")
	}
	return b.String()
}

// isErr fails where an error is not the one that is wanted.
func isErr(t *testing.T, what string, err, want error) {
	t.Helper()
	if want == nil && err != nil || !errors.Is(err, want) {
		t.Errorf("%s: %v, not %v", what, err, want)
	}
}

// sameHunk tells whether two hunks are the same.
func sameHunk(x, y api.Hunk) bool {
	return x.A == y.A && x.N == y.N && x.B == y.B && x.M == y.M && x.Head == y.Head && slices.Equal(x.Rows, y.Rows)
}

// areHunks fails where hunks are not those that are wanted, or there is an error.
func areHunks(t *testing.T, what string, got []api.Hunk, err error, want []api.Hunk) {
	t.Helper()
	if err != nil || !slices.EqualFunc(got, want, sameHunk) {
		t.Errorf("%s: %s, %v, not %s", what, shown(got...), err, shown(want...))
	}
}

// isHunk is areHunks of one.
func isHunk(t *testing.T, what string, got api.Hunk, err error, want api.Hunk) {
	t.Helper()
	areHunks(t, what, []api.Hunk{got}, err, []api.Hunk{want})
}

// failed fails where there is another error than the one that is wanted, or hunks beside it.
func failed(t *testing.T, what string, got []api.Hunk, err, want error) {
	t.Helper()
	isErr(t, what, err, want)
	if len(got) > 0 {
		t.Errorf("%s: %s beside %v", what, shown(got...), err)
	}
}

// isLine tells whether a text is a line.
func isLine(text string) bool {
	at := strings.IndexByte(text, '\n')
	return text != "" && (at < 0 || at == len(text)-1)
}

// counts are the numbers of rows of the old side and of the new one.
func counts(rows []api.Row) (int, int) {
	n, m := 0, 0
	for _, r := range rows {
		switch r.Kind {
		case api.RowBoth:
			n, m = n+1, m+1
		case api.RowOld:
			n++
		case api.RowNew:
			m++
		}
	}
	return n, m
}

// mayBe tells by the chapter's words whether a hunk may be.
func mayBe(h api.Hunk) bool {
	changed := false
	for i, r := range h.Rows {
		if r.Kind != api.RowBoth && r.Kind != api.RowOld && r.Kind != api.RowNew || !isLine(r.Text) {
			return false
		}
		changed = changed || r.Kind != api.RowBoth
		if strings.HasSuffix(r.Text, "\n") {
			continue
		}
		for _, s := range h.Rows[i+1:] {
			if r.Kind == api.RowBoth || s.Kind == api.RowBoth || s.Kind == r.Kind {
				return false
			}
		}
	}
	n, m := counts(h.Rows)
	sides := [][3]int{{h.A, h.N, n}, {h.B, h.M, m}}
	for _, s := range sides {
		if s[1] != s[2] || s[0] < 0 || s[0] == 0 && s[1] > 0 || s[0] > api.MaxNumber || s[0]+s[1] > api.MaxNumber {
			return false
		}
	}
	return changed && len(h.Head) <= api.MaxPath && strings.IndexByte(h.Head, '\n') < 0
}

// places are the old place of a hunk and the new one.
func places(h api.Hunk) (int, int) {
	old, fresh := h.A, h.B
	if h.N > 0 {
		old--
	}
	if h.M > 0 {
		fresh--
	}
	return old, fresh
}

// hasCut tells whether a hunk has a line of one of two kinds that is not whole.
func hasCut(h api.Hunk, kind, other int) bool {
	return slices.ContainsFunc(h.Rows, func(r api.Row) bool {
		return (r.Kind == kind || r.Kind == other) && !strings.HasSuffix(r.Text, "\n")
	})
}

// orderOf tells by the chapter's words whether hunks may stand one behind the other.
func orderOf(l []api.Hunk) error {
	for _, h := range l {
		if !mayBe(h) {
			return api.ErrHunk
		}
	}
	for i, h := range l {
		old, fresh := places(h)
		if i == 0 {
			if old != fresh {
				return api.ErrOrder
			}
			continue
		}
		last := l[i-1]
		wasOld, wasFresh := places(last)
		if old < wasOld+last.N || fresh < wasFresh+last.M || old-fresh != wasOld+last.N-wasFresh-last.M {
			return api.ErrOrder
		}
		for _, g := range l[:i] {
			if h.N > 0 && hasCut(g, api.RowBoth, api.RowOld) || h.M > 0 && hasCut(g, api.RowBoth, api.RowNew) {
				return api.ErrOrder
			}
		}
	}
	return nil
}

// H1: hunks that may be and that may not, by each condition.
func TestValid(t *testing.T) {
	const most = api.MaxNumber
	for _, c := range []struct {
		name string
		h    api.Hunk
		ok   bool
	}{
		{"one that is changed", hunk(2, 3, 2, 3, " a\n", "-b\n", "+c\n", " d\n"), true},
		{"new ones ahead of old ones", hunk(1, 1, 1, 2, "+a\n", "-b\n", "+c\n"), true},
		{"lines that are empty but for their ends", hunk(1, 1, 1, 1, "-\n", "+\n"), true},
		// rows
		{"no rows", api.Hunk{}, false},
		{"no rows, at the line 1", hunk(1, 0, 1, 0), false},
		{"a row of both alone", hunk(1, 1, 1, 1, " a\n"), false},
		{"rows of both alone", hunk(1, 2, 1, 2, " a\n", " b\n"), false},
		{"an old row alone", hunk(1, 1, 0, 0, "-a\n"), true},
		{"a new row alone", hunk(0, 0, 1, 1, "+a\n"), true},
		{"a row of another kind alone", hunk(1, 1, 1, 1, "?a\n"), false},
		{"a row of another kind beside others", hunk(1, 1, 0, 0, "-a\n", "?b\n"), false},
		{"a row of another kind that is counted", hunk(1, 2, 1, 1, "-a\n", "?b\n"), false},
		{"a row of the kind 0", api.Hunk{A: 1, N: 1, Rows: []api.Row{{Kind: api.RowOld, Text: "a\n"}, {Text: "b\n"}}}, false},
		{"a row of the kind 4", api.Hunk{A: 1, N: 1, Rows: []api.Row{{Kind: api.RowOld, Text: "a\n"}, {Kind: 4, Text: "b\n"}}}, false},
		{"a row of a kind below 0", api.Hunk{A: 1, N: 1, Rows: []api.Row{{Kind: api.RowOld, Text: "a\n"}, {Kind: -1, Text: "b\n"}}}, false},
		// texts
		{"an old text that is empty", hunk(1, 1, 0, 0, "-"), false},
		{"a new text that is empty", hunk(0, 0, 1, 1, "+"), false},
		{"a text of both that is empty", hunk(1, 2, 1, 1, "-a\n", " "), false},
		{"an old text of two lines", hunk(1, 1, 0, 0, "-a\nb\n"), false},
		{"a new text of two lines", hunk(0, 0, 1, 1, "+a\nb"), false},
		{"a text of both with two ends", hunk(1, 2, 1, 1, " a\n\n", "-b\n"), false},
		// N and M
		{"N one too few", hunk(2, 2, 2, 3, " a\n", "-b\n", "+c\n", " d\n"), false},
		{"N one too many", hunk(2, 4, 2, 3, " a\n", "-b\n", "+c\n", " d\n"), false},
		{"M one too few", hunk(2, 3, 2, 2, " a\n", "-b\n", "+c\n", " d\n"), false},
		{"M one too many", hunk(2, 3, 2, 4, " a\n", "-b\n", "+c\n", " d\n"), false},
		{"N and M exchanged", hunk(1, 1, 1, 2, " a\n", "-b\n"), false},
		{"N below 0", hunk(1, -1, 1, 1, "+a\n"), false},
		{"M below 0", hunk(1, 1, 1, -1, "-a\n"), false},
		{"the least N", hunk(1, math.MinInt, 1, 1, "+a\n"), false},
		{"the greatest N", hunk(1, math.MaxInt, 1, 1, "+a\n"), false},
		// A and B
		{"A 0 with lines", hunk(0, 1, 1, 1, "-a\n", "+b\n"), false},
		{"B 0 with lines", hunk(1, 1, 0, 1, "-a\n", "+b\n"), false},
		{"A below 0 with lines", hunk(-1, 1, 1, 1, "-a\n", "+b\n"), false},
		{"A below 0 without lines", hunk(-1, 0, 1, 1, "+b\n"), false},
		{"B below 0 without lines", hunk(1, 1, -1, 0, "-b\n"), false},
		{"A at the line 1 without lines", hunk(1, 0, 1, 1, "+b\n"), true},
		{"A at the limit without lines", hunk(most, 0, 1, 1, "+b\n"), true},
		{"A beyond the limit without lines", hunk(most+1, 0, 1, 1, "+b\n"), false},
		{"B at the limit without lines", hunk(1, 1, most, 0, "-b\n"), true},
		{"B beyond the limit without lines", hunk(1, 1, most+1, 0, "-b\n"), false},
		{"A + N at the limit", hunk(most-1, 1, 0, 0, "-b\n"), true},
		{"A + N beyond the limit", hunk(most, 1, 0, 0, "-b\n"), false},
		{"A + N at the limit, two", hunk(most-2, 2, 1, 1, "-b\n", " c\n"), true},
		{"A + N beyond the limit, two", hunk(most-1, 2, 1, 1, "-b\n", " c\n"), false},
		{"B + M at the limit", hunk(0, 0, most-1, 1, "+b\n"), true},
		{"B + M beyond the limit", hunk(0, 0, most, 1, "+b\n"), false},
		{"the greatest A", hunk(math.MaxInt, 1, 0, 0, "-b\n"), false},
		{"the greatest B", hunk(0, 0, math.MaxInt, 1, "+b\n"), false},
		{"the least A", hunk(math.MinInt, 1, 0, 0, "-b\n"), false},
		{"places that are far from one another", hunk(1, 1, 77, 1, "-a\n", "+b\n"), true},
		// lines that are not whole
		{"old, the last row", hunk(1, 1, 0, 0, "-a"), true},
		{"new, the last row", hunk(0, 0, 1, 1, "+a"), true},
		{"both, the last row", hunk(1, 2, 1, 1, "-a\n", " b"), true},
		{"old ahead of new", hunk(1, 1, 1, 1, "-a", "+b\n"), true},
		{"new ahead of old", hunk(1, 1, 1, 1, "+a", "-b\n"), true},
		{"old and new", hunk(1, 1, 1, 1, "-a", "+b"), true},
		{"old ahead of old", hunk(1, 2, 0, 0, "-a", "-b\n"), false},
		{"old ahead of new and old", hunk(1, 2, 1, 1, "-a", "+b\n", "-c\n"), false},
		{"old ahead of both", hunk(1, 2, 1, 1, "-a", " b\n"), false},
		{"old ahead of new and both", hunk(1, 2, 1, 2, "-a", "+b\n", " c\n"), false},
		{"new ahead of new", hunk(0, 0, 1, 2, "+a", "+b\n"), false},
		{"new ahead of old and new", hunk(1, 1, 1, 2, "+a", "-b\n", "+c\n"), false},
		{"new ahead of both", hunk(1, 1, 1, 2, "+a", " b\n"), false},
		{"both ahead of both", hunk(1, 3, 1, 2, "-a\n", " b", " c\n"), false},
		{"both ahead of old", hunk(1, 2, 1, 1, " a", "-b\n"), false},
		{"both ahead of new", hunk(1, 1, 1, 2, " a", "+b\n"), false},
		{"all but the last not whole", hunk(1, 2, 1, 2, " a", "-b", "+c"), false},
		// Head
		{"a heading", headed(hunk(1, 1, 0, 0, "-a\n"), "int f()"), true},
		{"a heading of other bytes", headed(hunk(1, 1, 0, 0, "-a\n"), " \x00\t\r\xff "), true},
		{"a heading of the limit", headed(hunk(1, 1, 0, 0, "-a\n"), strings.Repeat("x", api.MaxPath)), true},
		{"a heading too long", headed(hunk(1, 1, 0, 0, "-a\n"), strings.Repeat("x", api.MaxPath+1)), false},
		{"a heading with an end", headed(hunk(1, 1, 0, 0, "-a\n"), "x\n"), false},
		{"a heading that is an end", headed(hunk(1, 1, 0, 0, "-a\n"), "\n"), false},
		{"a heading with an end in it", headed(hunk(1, 1, 0, 0, "-a\n"), "x\ny"), false},
	} {
		var want error
		if !c.ok {
			want = api.ErrHunk
		}
		isErr(t, c.name, Valid(c.h), want)
		isErr(t, c.name+", in a list", Order([]api.Hunk{c.h}), orderOf([]api.Hunk{c.h}))
		if mayBe(c.h) != c.ok {
			t.Error(c.name, "is told otherwise by the words")
		}
	}
}

// someRows are all lists of up to most rows of some kinds and texts.
func someRows(most int, kinds []int, texts []string) [][]api.Row {
	all := [][]api.Row{nil}
	longest := all
	for range most {
		var longer [][]api.Row
		for _, rows := range longest {
			for _, kind := range kinds {
				for _, text := range texts {
					longer = append(longer, append(slices.Clone(rows), api.Row{Kind: kind, Text: text}))
				}
			}
		}
		all = append(all, longer...)
		longest = longer
	}
	return all
}

// H1: all small hunks.
func TestValidOfAllSmall(t *testing.T) {
	check := func(h api.Hunk) {
		if err := Valid(h); (err == nil) != mayBe(h) || err != nil && !errors.Is(err, api.ErrHunk) {
			t.Errorf("%s: %v", shown(h), err)
		}
	}
	for _, rows := range someRows(3, []int{0, 1, 2, 3, 4}, []string{"x\n", "x", "", "x\ny"}) {
		n, m := counts(rows)
		check(api.Hunk{A: 1, N: n, B: 1, M: m, Rows: rows})
	}
	for _, rows := range someRows(2, []int{1, 2, 3}, []string{"x\n", "x"}) {
		for _, a := range []int{-1, 0, 1, api.MaxNumber - 2, api.MaxNumber - 1, api.MaxNumber, api.MaxNumber + 1} {
			for code := range 25 {
				n, m := code%5-1, code/5-1
				check(api.Hunk{A: a, N: n, B: 1, M: m, Rows: rows})
				check(api.Hunk{A: 1, N: n, B: a, M: m, Rows: rows})
			}
		}
	}
}

// H1: hunks that may stand one behind the other and that may not, and which error comes.
func TestOrder(t *testing.T) {
	const most = api.MaxNumber
	first := hunk(2, 2, 2, 3, " a\n", "+b\n", " c\n") // the places 1 and 1, behind it 3 and 4
	none := hunk(1, 1, 1, 1, " a\n")
	for _, c := range []struct {
		name string
		l    []api.Hunk
		want error
	}{
		{"none", nil, nil},
		{"none, and not nil", []api.Hunk{}, nil},
		{"one", []api.Hunk{first}, nil},
		{"one that may not be", []api.Hunk{none}, api.ErrHunk},
		{"one may not be, the second", []api.Hunk{first, none}, api.ErrHunk},
		{"one may not be, behind others out of order", []api.Hunk{first, first, none}, api.ErrHunk},
		{"one may not be, ahead of others out of order", []api.Hunk{none, first, first}, api.ErrHunk},
		// the first one
		{"the first, from the beginning on", []api.Hunk{hunk(1, 1, 1, 1, "-a\n", "+b\n")}, nil},
		{"the first, old alone", []api.Hunk{hunk(1, 1, 0, 0, "-a\n")}, nil},
		{"the first, old alone, one on", []api.Hunk{hunk(1, 1, 1, 0, "-a\n")}, api.ErrOrder},
		{"the first, new alone", []api.Hunk{hunk(0, 0, 1, 1, "+a\n")}, nil},
		{"the first, new alone, one on", []api.Hunk{hunk(1, 0, 1, 1, "+a\n")}, api.ErrOrder},
		{"the first, new alone, one ahead", []api.Hunk{hunk(0, 0, 2, 1, "+a\n")}, api.ErrOrder},
		{"the first, its places apart", []api.Hunk{hunk(1, 1, 2, 1, "-a\n", "+b\n")}, api.ErrOrder},
		{"the first, its places the other way apart", []api.Hunk{hunk(2, 1, 1, 1, "-a\n", "+b\n")}, api.ErrOrder},
		{"the first, far on", []api.Hunk{hunk(most-1, 1, most-1, 1, "-a\n", "+b\n")}, nil},
		// the second one
		{"right behind", []api.Hunk{first, hunk(4, 1, 5, 1, "-a\n", "+b\n")}, nil},
		{"one line on", []api.Hunk{first, hunk(5, 1, 6, 1, "-a\n", "+b\n")}, nil},
		{"one line into it", []api.Hunk{first, hunk(3, 1, 4, 1, "-a\n", "+b\n")}, api.ErrOrder},
		{"the same again", []api.Hunk{first, first}, api.ErrOrder},
		{"old one into it", []api.Hunk{first, hunk(3, 1, 5, 1, "-a\n", "+b\n")}, api.ErrOrder},
		{"new one into it", []api.Hunk{first, hunk(4, 1, 4, 1, "-a\n", "+b\n")}, api.ErrOrder},
		{"old one on", []api.Hunk{first, hunk(5, 1, 5, 1, "-a\n", "+b\n")}, api.ErrOrder},
		{"new one on", []api.Hunk{first, hunk(4, 1, 6, 1, "-a\n", "+b\n")}, api.ErrOrder},
		{"as if nothing were ahead", []api.Hunk{first, hunk(9, 1, 9, 1, "-a\n", "+b\n")}, api.ErrOrder},
		{"old alone, right behind", []api.Hunk{first, hunk(4, 1, 4, 0, "-a\n")}, nil},
		{"old alone, new one on", []api.Hunk{first, hunk(4, 1, 5, 0, "-a\n")}, api.ErrOrder},
		{"new alone, right behind", []api.Hunk{first, hunk(3, 0, 5, 1, "+a\n")}, nil},
		{"new alone, old one on", []api.Hunk{first, hunk(4, 0, 5, 1, "+a\n")}, api.ErrOrder},
		{"new alone, one into it", []api.Hunk{first, hunk(2, 0, 4, 1, "+a\n")}, api.ErrOrder},
		// three
		{"three", []api.Hunk{first, hunk(4, 1, 4, 0, "-a\n"), hunk(5, 1, 5, 1, "-a\n", "+b\n")}, nil},
		{"three, the third into the second", []api.Hunk{first, hunk(4, 1, 4, 0, "-a\n"), hunk(4, 1, 4, 1, "-a\n", "+b\n")}, api.ErrOrder},
		{"three, the third as behind the first", []api.Hunk{first, hunk(4, 1, 4, 0, "-a\n"), hunk(5, 1, 6, 1, "-a\n", "+b\n")}, api.ErrOrder},
		{"from the last to the first", []api.Hunk{hunk(4, 1, 5, 1, "-a\n", "+b\n"), first}, api.ErrOrder},
		// lines that are not whole
		{"both not whole, then new", []api.Hunk{hunk(1, 2, 1, 1, "-a\n", " b"), hunk(2, 0, 2, 1, "+c\n")}, api.ErrOrder},
		{"both not whole, then old", []api.Hunk{hunk(1, 2, 1, 1, "-a\n", " b"), hunk(3, 1, 1, 0, "-c\n")}, api.ErrOrder},
		{"old not whole, then new", []api.Hunk{hunk(1, 1, 0, 0, "-a"), hunk(1, 0, 1, 1, "+c\n")}, nil},
		{"old not whole, then old", []api.Hunk{hunk(1, 1, 0, 0, "-a"), hunk(2, 1, 0, 0, "-c\n")}, api.ErrOrder},
		{"old not whole, then both and new", []api.Hunk{hunk(1, 1, 0, 0, "-a"), hunk(2, 1, 1, 2, " b\n", "+c\n")}, api.ErrOrder},
		{"old not whole, new, then old", []api.Hunk{hunk(1, 1, 0, 0, "-a"), hunk(1, 0, 1, 1, "+c\n"), hunk(2, 1, 1, 0, "-d\n")}, api.ErrOrder},
		{"old not whole, new, then new", []api.Hunk{hunk(1, 1, 0, 0, "-a"), hunk(1, 0, 1, 1, "+c\n"), hunk(1, 0, 2, 1, "+d\n")}, nil},
		{"old not whole, with new behind it, then old", []api.Hunk{hunk(1, 1, 1, 1, "-a", "+b\n"), hunk(2, 1, 1, 0, "-d\n")}, api.ErrOrder},
		{"new not whole, then old", []api.Hunk{hunk(0, 0, 1, 1, "+a"), hunk(1, 1, 1, 0, "-c\n")}, nil},
		{"new not whole, then new", []api.Hunk{hunk(0, 0, 1, 1, "+a"), hunk(0, 0, 2, 1, "+c\n")}, api.ErrOrder},
		{"new not whole, then both and old", []api.Hunk{hunk(0, 0, 1, 1, "+a"), hunk(1, 2, 2, 1, " b\n", "-c\n")}, api.ErrOrder},
		{"new not whole, old, then new", []api.Hunk{hunk(0, 0, 1, 1, "+a"), hunk(1, 1, 1, 0, "-c\n"), hunk(1, 0, 2, 1, "+d\n")}, api.ErrOrder},
		{"new not whole ahead of old, then new", []api.Hunk{hunk(1, 1, 1, 1, "+a", "-b\n"), hunk(1, 0, 2, 1, "+c\n")}, api.ErrOrder},
		{"new not whole ahead of old, then old", []api.Hunk{hunk(1, 1, 1, 1, "+a", "-b\n"), hunk(2, 1, 1, 0, "-c\n")}, nil},
		{"none whole, the last one", []api.Hunk{first, hunk(4, 1, 5, 1, "-a", "+b")}, nil},
	} {
		isErr(t, c.name, Order(c.l), c.want)
		if want := orderOf(c.l); want != c.want {
			t.Error(c.name, "is told otherwise by the words:", want)
		}
	}
}

// H1: all small lists of hunks.
func TestOrderOfAllSmall(t *testing.T) {
	var some []api.Hunk
	for _, rows := range [][]string{{"-a\n"}, {"+a\n"}, {"-a"}, {"+a"}, {" a\n", "+b\n"}, {"-b\n", " a"}, {" a\n"}} {
		for code := range 9 {
			h := hunk(code%3, 0, code/3, 0, rows...)
			h.N, h.M = counts(h.Rows)
			some = append(some, h)
		}
	}
	check := func(l ...api.Hunk) {
		if err, want := Order(l), orderOf(l); err != nil && want == nil || !errors.Is(err, want) {
			t.Errorf("%s: %v, not %v", shown(l...), err, want)
		}
	}
	for _, first := range some {
		check(first)
		for _, second := range some {
			check(first, second)
			if orderOf([]api.Hunk{first, second}) != nil {
				continue
			}
			for _, third := range some {
				check(first, second, third)
			}
		}
	}
}
