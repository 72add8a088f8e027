package side

import (
	"errors"
	"selvage/api"
	"selvage/lines"
	"slices"
	"strings"
	"testing"
)

// script are changes by their numbers, A, N, B, M.
func script(numbers ...[4]int) []api.Change {
	var s []api.Change
	for _, c := range numbers {
		s = append(s, api.Change{A: c[0], N: c[1], B: c[2], M: c[3]})
	}
	return s
}

// isErr fails where an error is not the one that is wanted.
func isErr(t *testing.T, what string, err, want error) {
	t.Helper()
	if want == nil && err != nil || !errors.Is(err, want) {
		t.Errorf("%s: %v, not %v", what, err, want)
	}
}

// isText fails where a text is not the one that is wanted, or there is an error.
func isText(t *testing.T, what, got string, err error, want string) {
	t.Helper()
	if err != nil || got != want {
		t.Errorf("%s: %.400q, %v, not %.400q", what, got, err, want)
	}
}

// noText fails where there is another error than the one that is wanted, or a text beside it.
func noText(t *testing.T, what, got string, err, want error) {
	t.Helper()
	isErr(t, what, err, want)
	if got != "" {
		t.Errorf("%s: %q beside %v", what, got, err)
	}
}

// smallTexts are all texts of at most so many of some pieces, put together.
func smallTexts(pieces []string, most int) []string {
	all := []string{""}
	for from := 0; most > 0; most-- {
		longest := all[from:]
		from = len(all)
		for _, s := range longest {
			for _, piece := range pieces {
				all = append(all, s+piece)
			}
		}
	}
	return all
}

// allScripts are all edit scripts from n lines to m, those that are not normal too.
func allScripts(n, m int) [][]api.Change {
	var all [][]api.Change
	var ahead []api.Change
	var from func(a, b int)
	from = func(a, b int) {
		if a == n && b == m {
			all = append(all, slices.Clone(ahead))
		}
		if a < n && b < m {
			from(a+1, b+1)
		}
		for gone := range n - a + 1 {
			for come := range m - b + 1 {
				if gone+come > 0 {
					ahead = append(ahead, api.Change{A: a, N: gone, B: b, M: come})
					from(a+gone, b+come)
					ahead = ahead[:len(ahead)-1]
				}
			}
		}
	}
	from(0, 0)
	return all
}

// joined is a script with the changes that touch put together.
func joined(s []api.Change) []api.Change {
	var l []api.Change
	for _, c := range s {
		if len(l) > 0 {
			last := &l[len(l)-1]
			if last.A+last.N == c.A && last.B+last.M == c.B {
				last.N, last.M = last.N+c.N, last.M+c.M
				continue
			}
		}
		l = append(l, c)
	}
	return l
}

// steps are numbers that look like chance, the same ones each time.
type steps uint64

// below is the next number, from 0 to n - 1.
func (s *steps) below(n int) int {
	*s = *s*6364136223846793005 + 1442695040888963407
	return int(uint64(*s) >> 33 % uint64(n))
}

// randomScript is some script from n lines to m: lines that stay, and changes of at most three lines a side, that may touch.
func randomScript(next *steps, n, m int) []api.Change {
	var s []api.Change
	a, b := 0, 0
	for a < n || b < m {
		if a < n && b < m && next.below(2) > 0 {
			a, b = a+1, b+1
			continue
		}
		c := api.Change{A: a, N: next.below(min(n-a, 3) + 1), B: b, M: next.below(min(m-b, 3) + 1)}
		if c.N+c.M > 0 {
			s = append(s, c)
			a, b = a+c.N, b+c.M
		}
	}
	return s
}

// The chapter's examples. Of a line that is alike on both sides its words ask for two columns, of which the second begins at 8: seven blanks behind a letter.
func TestExamples(t *testing.T) {
	isWords(t, "a1 = b;\n", "a1", " ", "=", " ", "b", ";", "\n")
	got, err := Inline(script([4]int{1, 1, 1, 1}), []string{"a", "x", "b"}, []string{"a", "y", "b"})
	isText(t, "Inline", got, err, "a[-x-]{+y+}b")
	isColumns(t, 13, 5, 8, nil)
	for _, c := range []struct {
		s          []api.Change
		a, b, want string
	}{
		{nil, "a\n", "a\n", "a" + strings.Repeat(" ", 7) + "a\n"},
		{script([4]int{0, 1, 0, 1}), "ab\n", "cd\n", "ab    | cd\n"},
		{script([4]int{0, 1, 0, 0}), "ab\n", "", "ab    <\n"},
		{script([4]int{0, 0, 0, 1}), "", "cd\n", "      > cd\n"},
	} {
		got, err := Print(c.s, lines.Split(c.a), lines.Split(c.b), 13)
		isText(t, "Print", got, err, c.want)
	}
}
