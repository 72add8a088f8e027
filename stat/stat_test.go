package stat

import (
	"errors"
	"fmt"
	"selvage/api"
	"selvage/edits"
	"selvage/hunks"
	"slices"
	"testing"
)

// isErr fails where an error is not the one that is wanted.
func isErr(t *testing.T, what string, err, want error) {
	t.Helper()
	if want == nil && err != nil || !errors.Is(err, want) {
		t.Errorf("%s: %v, not %v", what, err, want)
	}
}

// isText fails where a text is not the one that is wanted, or there is an error.
func isText(t *testing.T, what, got string, err error, want string) {
	t.Helper()
	if err != nil || got != want {
		t.Errorf("%s: %.400q, %v, not %.400q", what, got, err, want)
	}
}

// noText fails where there is another error than the one that is wanted, or a text beside it.
func noText(t *testing.T, what, got string, err, want error) {
	t.Helper()
	isErr(t, what, err, want)
	if got != "" {
		t.Errorf("%s: %.400q beside %v", what, got, err)
	}
}

// steps are numbers that look like chance, the same ones each time.
type steps uint64

// below is the next number, from 0 to n - 1.
func (s *steps) below(n int) int {
	*s = *s*6364136223846793005 + 1442695040888963407
	return int(uint64(*s) >> 33 % uint64(n))
}

// hunk is a hunk of rows, each told as its mark and its text.
func hunk(a, b int, rows ...string) api.Hunk {
	h := api.Hunk{A: a, B: b}
	for _, row := range rows {
		r := api.Row{Kind: api.RowBoth, Text: row[1:]}
		switch row[0] {
		case '-':
			r.Kind = api.RowOld
		case '+':
			r.Kind = api.RowNew
		}
		if r.Kind != api.RowNew {
			h.N++
		}
		if r.Kind != api.RowOld {
			h.M++
		}
		h.Rows = append(h.Rows, r)
	}
	return h
}

// isOf fails where Of does not count what is wanted.
func isOf(t *testing.T, name string, l []api.Hunk, adds, dels int) {
	t.Helper()
	got, err := Of(name, l)
	if err != nil || got != (Count{name, adds, dels}) {
		t.Errorf("Of(%q, %.400q): %v, %v, not %d and %d", name, fmt.Sprint(l), got, err, adds, dels)
	}
}

// The chapter's examples.
func TestExamples(t *testing.T) {
	got, err := Table([]Count{{"a", 3, 2}, {"b", 0, 1}}, 40)
	isText(t, "Table", got, err, " a | 5 +++--\n b | 1 -\n 2 files changed, 3 insertions(+), 3 deletions(-)\n")
	isBar(t, 100, 1, 10, 101, 9, 1)
	isBar(t, 1, 1, 10, 1000, 1, 1)
	got, err = Total(nil)
	isText(t, "Total", got, err, " 0 files changed\n")
}

// ST1: rows of each kind, of one hunk and of several, in order and not.
func TestOf(t *testing.T) {
	comes, goes := hunk(0, 1, "+x\n"), hunk(1, 0, "-x\n")
	both := hunk(5, 7, " 1\n", "-2\n", "-3\n", "+x\n", "+y\n", "+z\n", " 4\n", "-5\n", " 6")
	for _, name := range []string{"", "f", "a b", "a/b\n\t\"\xff"} {
		isOf(t, name, nil, 0, 0)
		isOf(t, name, []api.Hunk{}, 0, 0)
		isOf(t, name, []api.Hunk{comes}, 1, 0)
		isOf(t, name, []api.Hunk{goes}, 0, 1)
		isOf(t, name, []api.Hunk{both}, 3, 3)
		isOf(t, name, []api.Hunk{comes, both}, 4, 3)
		isOf(t, name, []api.Hunk{both, goes, goes}, 3, 5)
	}
	// hunks that may be, but not one behind the other
	isOf(t, "f", []api.Hunk{both, both, comes, both}, 10, 9)
	isOf(t, "f", []api.Hunk{hunk(api.MaxNumber-1, api.MaxNumber, "-x\n")}, 0, 1)
	// lines without an end count as others do, and what a line looks like does not
	isOf(t, "f", []api.Hunk{hunk(1, 1, "-x", "+x\n")}, 1, 1)
	isOf(t, "f", []api.Hunk{hunk(1, 1, "-x\n", "+x")}, 1, 1)
	isOf(t, "f", []api.Hunk{hunk(1, 1, "+-\n", "++\n", " -\n", "-+\n", "+\n")}, 3, 1)
}

// badHunks are hunks that may not be, one for each of the words.
func badHunks() []api.Hunk {
	fine := func() api.Hunk { return hunk(2, 2, " 1\n", "-2\n", "+x\n") }
	var l []api.Hunk
	for _, spoil := range []func(h *api.Hunk){
		func(h *api.Hunk) { *h = api.Hunk{} },
		func(h *api.Hunk) { *h = hunk(1, 1, " 1\n") },
		func(h *api.Hunk) { h.Rows = nil },
		func(h *api.Hunk) { h.Rows[1].Kind = 0 },
		func(h *api.Hunk) { h.Rows[1].Kind = 4 },
		func(h *api.Hunk) { h.Rows[1].Text = "" },
		func(h *api.Hunk) { h.Rows[2].Text = "x\ny\n" },
		func(h *api.Hunk) { h.Rows[0].Text = "x" },
		func(h *api.Hunk) { h.N++ },
		func(h *api.Hunk) { h.M-- },
		func(h *api.Hunk) { h.A = 0 },
		func(h *api.Hunk) { h.B = -1 },
		func(h *api.Hunk) { h.A = api.MaxNumber - 1 },
		func(h *api.Hunk) { h.Head = "a\nb" },
	} {
		h := fine()
		spoil(&h)
		l = append(l, h)
	}
	return l
}

// ST1: a hunk that may not be, first, in the middle and last.
func TestOfErrors(t *testing.T) {
	fine := hunk(1, 1, " 1\n", "-2\n", "+x\n", "+y\n")
	for _, bad := range badHunks() {
		for _, l := range [][]api.Hunk{{bad}, {bad, fine}, {fine, bad}, {bad, fine, fine}, {fine, bad, fine}, {fine, fine, bad}, {bad, bad}} {
			got, err := Of("f", l)
			isErr(t, fmt.Sprint(l), err, api.ErrHunk)
			if got != (Count{}) {
				t.Errorf("%v beside %v", got, err)
			}
		}
	}
}

// ST1: so many lines as there may be, and one more: counted on from many, for no list that is handed in is so long.
func TestOfTooMany(t *testing.T) {
	const most = api.MaxNumber
	comes, goes, both := hunk(0, 1, "+x\n"), hunk(1, 0, "-x\n"), hunk(1, 1, "-x\n", "+y\n", " z\n")
	for _, c := range []struct {
		adds, dels int
		l          []api.Hunk
		want       error
	}{
		{most, most, nil, nil},
		{most - 1, 0, []api.Hunk{comes}, nil},
		{0, most - 1, []api.Hunk{goes}, nil},
		{most - 1, most - 1, []api.Hunk{both}, nil},
		{most, 0, []api.Hunk{goes}, nil},
		{0, most, []api.Hunk{comes}, nil},
		{most, 0, []api.Hunk{comes}, api.ErrLong},
		{0, most, []api.Hunk{goes}, api.ErrLong},
		{most - 1, most, []api.Hunk{both}, api.ErrLong},
		{most, most - 1, []api.Hunk{both}, api.ErrLong},
		{most - 1, 0, []api.Hunk{comes, both}, api.ErrLong},
		{most, most, []api.Hunk{both, both, {}}, api.ErrHunk},
	} {
		got, err := Count{"f", c.adds, c.dels}.withHunks(c.l)
		isErr(t, fmt.Sprint(c), err, c.want)
		if (got == Count{}) != (c.want != nil) {
			t.Errorf("%v: %v beside %v", c, got, err)
		}
	}
}

// allScripts are all edit scripts from n lines to m, those that are not normal too.
func allScripts(n, m int) [][]api.Change {
	var all [][]api.Change
	var ahead []api.Change
	var from func(a, b int)
	from = func(a, b int) {
		if a == n && b == m {
			all = append(all, slices.Clone(ahead))
		}
		if a < n && b < m {
			from(a+1, b+1)
		}
		for gone := range n - a + 1 {
			for come := range m - b + 1 {
				if gone+come > 0 {
					ahead = append(ahead, api.Change{A: a, N: gone, B: b, M: come})
					from(a+gone, b+come)
					ahead = ahead[:len(ahead)-1]
				}
			}
		}
	}
	from(0, 0)
	return all
}

// someLines are n lines of a text, the last one with an end or without.
func someLines(n int, whole bool) []string {
	l := slices.Repeat([]string{"x\n"}, n)
	if n > 0 && !whole {
		l[n-1] = "x"
	}
	return l
}

// costsAsMuch fails where the hunks of a script, with some context, are not counted as its cost.
func costsAsMuch(t *testing.T, s []api.Change, a, b []string, context int) {
	t.Helper()
	l, err := hunks.Build(s, a, b, context)
	if errors.Is(err, api.ErrApply) {
		return // a line that stays can't be whole on one side alone
	}
	isErr(t, "Build", err, nil)
	dels, adds := edits.Cost(s)
	isOf(t, "f", l, adds, dels)
}

// ST5: the counts of a script's hunks are its cost, whatever the context.
func TestCountsAreCosts(t *testing.T) {
	for n := range 5 {
		for m := range 5 {
			for _, s := range allScripts(n, m) {
				for _, context := range []int{0, 1, 2, 3, 4, 5, api.MaxNumber} {
					costsAsMuch(t, s, someLines(n, true), someLines(m, true), context)
				}
				for ends := range 3 {
					costsAsMuch(t, s, someLines(n, ends == 1), someLines(m, ends == 2), ends)
				}
			}
		}
	}
}

// ST5: the same of longer scripts.
func TestCountsOfLongScripts(t *testing.T) {
	next := steps(3)
	for range 300 {
		var s []api.Change
		a, b := 0, 0
		for range next.below(30) {
			stay := next.below(12)
			c := api.Change{A: a + stay, N: next.below(5), B: b + stay, M: next.below(5)}
			a, b = a+stay+c.N, b+stay+c.M
			if c.N+c.M > 0 {
				s = append(s, c)
			}
		}
		behind := next.below(12)
		for context := range 14 {
			costsAsMuch(t, s, someLines(a+behind, true), someLines(b+behind, true), context)
		}
	}
}
