package context

import (
	"errors"
	"fmt"
	"selvage/api"
	"slices"
	"strings"
	"testing"
)

const (
	noEnd = "\\ No newline at end of file\n"

	// fifteen is a hunk's first line, without its end.
	fifteen = "***************"
)

// row is a row by its mark and its line: ' ' RowBoth, '-' RowOld, '+' RowNew, '?' a kind that is none.
func row(text string) api.Row {
	kinds := []int{api.RowBoth, api.RowOld, api.RowNew, 7}
	return api.Row{Kind: kinds[strings.IndexByte(" -+?", text[0])], Text: text[1:]}
}

// hunk is a hunk by its four numbers, A, N, B, M, and its rows.
func hunk(a, n, b, m int, rows ...string) api.Hunk {
	h := api.Hunk{A: a, N: n, B: b, M: m}
	for _, text := range rows {
		h.Rows = append(h.Rows, row(text))
	}
	return h
}

// headed is a hunk with a heading.
func headed(h api.Hunk, head string) api.Hunk {
	h.Head = head
	return h
}

// named is a name without a stamp.
func named(path string) api.Name {
	return api.Name{Path: path}
}

// counts are the numbers of rows of the old side and of the new one.
func counts(rows []api.Row) (int, int) {
	n, m := 0, 0
	for _, r := range rows {
		switch r.Kind {
		case api.RowBoth:
			n, m = n+1, m+1
		case api.RowOld:
			n++
		case api.RowNew:
			m++
		}
	}
	return n, m
}

// oldAhead are hunks with the old rows ahead of the new ones in each run: a new row changes places with an old one behind it, till there is none.
func oldAhead(l []api.Hunk) []api.Hunk {
	l = slices.Clone(l)
	for i := range l {
		rows := slices.Clone(l[i].Rows)
		for j := 1; j < len(rows); j++ {
			if rows[j-1].Kind == api.RowNew && rows[j].Kind == api.RowOld {
				rows[j-1], rows[j] = rows[j], rows[j-1]
				j = 0
			}
		}
		l[i].Rows = rows
	}
	return l
}

// shown are hunks as a text, each row by its kind and its quoted line.
func shown(l ...api.Hunk) string {
	var b strings.Builder
	for _, h := range l {
		fmt.Fprintf(&b, "{%d,%d %d,%d %q:", h.A, h.N, h.B, h.M, h.Head)
		for _, r := range h.Rows {
			fmt.Fprintf(&b, " %d%q", r.Kind, r.Text)
		}
		b.WriteString("}")
	}
	return b.String()
}

// answer is what Parse answers.
type answer struct {
	old, fresh api.Name
	l          []api.Hunk
	left       string
	line       int
	err        error
}

// parse is Parse with its answers put together.
func parse(text string) answer {
	old, fresh, l, left, line, err := Parse(text)
	return answer{old, fresh, l, left, line, err}
}

// same tells whether two answers are the same.
func (x answer) same(y answer) bool {
	return x.old == y.old && x.fresh == y.fresh && x.left == y.left && x.line == y.line && x.err == y.err && slices.EqualFunc(x.l, y.l, sameHunk)
}

// sameHunk tells whether two hunks are the same.
func sameHunk(x, y api.Hunk) bool {
	return x.A == y.A && x.N == y.N && x.B == y.B && x.M == y.M && x.Head == y.Head && slices.Equal(x.Rows, y.Rows)
}

// String is an answer as a text.
func (x answer) String() string {
	return fmt.Sprintf("%q %q %s left %q, line %d, %v", x.old, x.fresh, shown(x.l...), x.left, x.line, x.err)
}

// isErr fails where an error is not the one that is wanted.
func isErr(t *testing.T, what string, err, want error) {
	t.Helper()
	if want == nil && err != nil || !errors.Is(err, want) {
		t.Errorf("%s: %v, not %v", what, err, want)
	}
}

// isText fails where a text is not the one that is wanted, or there is an error.
func isText(t *testing.T, what, got string, err error, want string) {
	t.Helper()
	if err != nil || got != want {
		t.Errorf("%s: %q, %v, not %q", what, got, err, want)
	}
}

// noText fails where there is another error than the one that is wanted, or a text beside it.
func noText(t *testing.T, what, got string, err, want error) {
	t.Helper()
	isErr(t, what, err, want)
	if got != "" {
		t.Errorf("%s: %q beside %v", what, got, err)
	}
}

// isRead fails where an answer is not the one that is wanted.
func isRead(t *testing.T, text string, want answer) {
	t.Helper()
	if got := parse(text); !got.same(want) {
		t.Errorf("Parse of %q: %v, not %v", text, got, want)
	}
}

// smallTexts are all texts of at most so many of some pieces, put together.
func smallTexts(pieces []string, most int) []string {
	all := []string{""}
	for from := 0; most > 0; most-- {
		longest := all[from:]
		from = len(all)
		for _, s := range longest {
			for _, piece := range pieces {
				all = append(all, s+piece)
			}
		}
	}
	return all
}

// someRows are all lists of up to most rows of the three kinds, of some texts.
func someRows(most int, texts ...string) [][]api.Row {
	all := [][]api.Row{nil}
	longest := all
	for range most {
		var longer [][]api.Row
		for _, rows := range longest {
			for kind := api.RowBoth; kind <= api.RowNew; kind++ {
				for _, text := range texts {
					longer = append(longer, append(slices.Clone(rows), api.Row{Kind: kind, Text: text}))
				}
			}
		}
		all = append(all, longer...)
		longest = longer
	}
	return all
}

// steps are numbers that look like chance, the same ones each time.
type steps uint64

// below is the next number, from 0 to n - 1.
func (s *steps) below(n int) int {
	*s = *s*6364136223846793005 + 1442695040888963407
	return int(uint64(*s) >> 33 % uint64(n))
}

// The chapter's examples.
func TestExamples(t *testing.T) {
	for _, c := range []struct {
		h    api.Hunk
		want []string
	}{
		{hunk(1, 2, 1, 2, " x\n", "-y\n", "+z\n"), []string{"*** a", "--- b", fifteen, "*** 1,2 ****", "  x", "! y", "--- 1,2 ----", "  x", "! z"}},
		{hunk(1, 1, 1, 2, " x\n", "+z\n"), []string{"*** a", "--- b", fifteen, "*** 1 ****", "--- 1,2 ----", "  x", "+ z"}},
		{hunk(0, 0, 1, 1, "+z\n"), []string{"*** a", "--- b", fifteen, "*** 0 ****", "--- 1 ----", "+ z"}},
	} {
		want := strings.Join(c.want, "\n") + "\n"
		got, err := Print(named("a"), named("b"), []api.Hunk{c.h})
		isText(t, shown(c.h), got, err, want)
		isRead(t, want, answer{old: named("a"), fresh: named("b"), l: []api.Hunk{c.h}})
	}
}
