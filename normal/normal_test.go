package normal

import (
	"errors"
	"fmt"
	"selvage/api"
	"slices"
	"strings"
	"testing"
)

const noEnd = "\\ No newline at end of file\n"

// row is a row by its mark and its line: ' ' RowBoth, '-' RowOld, '+' RowNew, '?' a kind that is none.
func row(text string) api.Row {
	kinds := []int{api.RowBoth, api.RowOld, api.RowNew, 7}
	return api.Row{Kind: kinds[strings.IndexByte(" -+?", text[0])], Text: text[1:]}
}

// hunk is a hunk by its four numbers, A, N, B, M, and its rows.
func hunk(a, n, b, m int, rows ...string) api.Hunk {
	h := api.Hunk{A: a, N: n, B: b, M: m}
	for _, text := range rows {
		h.Rows = append(h.Rows, row(text))
	}
	return h
}

// headed is a hunk with a heading.
func headed(h api.Hunk, head string) api.Hunk {
	h.Head = head
	return h
}

// counts are the numbers of rows of the old side and of the new one.
func counts(rows []api.Row) (int, int) {
	n, m := 0, 0
	for _, r := range rows {
		switch r.Kind {
		case api.RowBoth:
			n, m = n+1, m+1
		case api.RowOld:
			n++
		case api.RowNew:
			m++
		}
	}
	return n, m
}

// shown are hunks as a text, each row by its kind and its quoted line.
func shown(l ...api.Hunk) string {
	var b strings.Builder
	for _, h := range l {
		fmt.Fprintf(&b, "{%d,%d %d,%d %q:", h.A, h.N, h.B, h.M, h.Head)
		for _, r := range h.Rows {
			fmt.Fprintf(&b, " %d%q", r.Kind, r.Text)
		}
		b.WriteString("}")
	}
	return b.String()
}

// answer is what Parse answers.
type answer struct {
	l    []api.Hunk
	left string
	line int
	err  error
}

// parse is Parse with its answers put together.
func parse(text string) answer {
	l, left, line, err := Parse(text)
	return answer{l, left, line, err}
}

// read is the answer of some hunks.
func read(left string, l ...api.Hunk) answer {
	return answer{l: l, left: left}
}

// wrong is the answer of a text with a fault.
func wrong(line int, err error) answer {
	return answer{line: line, err: err}
}

// same tells whether two answers are the same.
func (x answer) same(y answer) bool {
	return x.left == y.left && x.line == y.line && x.err == y.err && slices.EqualFunc(x.l, y.l, sameHunk)
}

// sameHunk tells whether two hunks are the same.
func sameHunk(x, y api.Hunk) bool {
	return x.A == y.A && x.N == y.N && x.B == y.B && x.M == y.M && x.Head == y.Head && slices.Equal(x.Rows, y.Rows)
}

// String is an answer as a text.
func (x answer) String() string {
	return fmt.Sprintf("%s left %q, line %d, %v", shown(x.l...), x.left, x.line, x.err)
}

// isErr fails where an error is not the one that is wanted.
func isErr(t *testing.T, what string, err, want error) {
	t.Helper()
	if want == nil && err != nil || !errors.Is(err, want) {
		t.Errorf("%s: %v, not %v", what, err, want)
	}
}

// isText fails where a text is not the one that is wanted, or there is an error.
func isText(t *testing.T, what, got string, err error, want string) {
	t.Helper()
	if err != nil || got != want {
		t.Errorf("%s: %q, %v, not %q", what, got, err, want)
	}
}

// noText fails where there is another error than the one that is wanted, or a text beside it.
func noText(t *testing.T, what, got string, err, want error) {
	t.Helper()
	isErr(t, what, err, want)
	if got != "" {
		t.Errorf("%s: %q beside %v", what, got, err)
	}
}

// isRead fails where an answer is not the one that is wanted.
func isRead(t *testing.T, text string, want answer) {
	t.Helper()
	if got := parse(text); !got.same(want) {
		t.Errorf("Parse of %.300q: %.300v, not %.300v", text, got, want)
	}
}

// smallTexts are all texts of at most so many of some pieces, put together.
func smallTexts(pieces []string, most int) []string {
	all := []string{""}
	for from := 0; most > 0; most-- {
		longest := all[from:]
		from = len(all)
		for _, s := range longest {
			for _, piece := range pieces {
				all = append(all, s+piece)
			}
		}
	}
	return all
}

// steps are numbers that look like chance, the same ones each time.
type steps uint64

// below is the next number, from 0 to n - 1.
func (s *steps) below(n int) int {
	*s = *s*6364136223846793005 + 1442695040888963407
	return int(uint64(*s) >> 33 % uint64(n))
}

// The chapter's examples.
func TestExamples(t *testing.T) {
	for _, c := range []struct {
		s    api.Change
		a, b []string
		text string
		h    api.Hunk
	}{
		{api.Change{A: 1, N: 1, B: 1, M: 2}, []string{"1\n", "2\n"}, []string{"1\n", "3\n", "4\n"}, "2c2,3\n< 2\n---\n> 3\n> 4\n", hunk(2, 1, 2, 2, "-2\n", "+3\n", "+4\n")},
		{api.Change{N: 1}, []string{"x\n"}, nil, "1d0\n< x\n", hunk(1, 1, 0, 0, "-x\n")},
		{api.Change{M: 1}, nil, []string{"x\n"}, "0a1\n> x\n", hunk(0, 0, 1, 1, "+x\n")},
	} {
		got, err := Print([]api.Change{c.s}, c.a, c.b)
		isText(t, "the example", got, err, c.text)
		isRead(t, c.text, read("", c.h))
		got, err = Hunks([]api.Hunk{c.h})
		isText(t, "the example's hunk", got, err, c.text)
	}
}
