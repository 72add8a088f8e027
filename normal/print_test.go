package normal

import (
	"fmt"
	"math"
	"selvage/api"
	"selvage/lines"
	"slices"
	"strings"
	"testing"
)

// script are changes by their numbers, A, N, B, M.
func script(numbers [][4]int) []api.Change {
	var s []api.Change
	for _, c := range numbers {
		s = append(s, api.Change{A: c[0], N: c[1], B: c[2], M: c[3]})
	}
	return s
}

// N1: what is printed of changes of each kind, at each place.
func TestPrint(t *testing.T) {
	for _, c := range []struct {
		name string
		s    [][4]int
		a, b string
		want string
	}{
		{"nothing of nothing", nil, "", "", ""},
		{"no change", nil, "1\n2\n", "1\n2\n", ""},
		{"no change, and no end", nil, "1\n2", "1\n2", ""},
		// old lines alone
		{"the first line goes", [][4]int{{0, 1, 0, 0}}, "1\n2\n3\n", "2\n3\n", "1d0\n< 1\n"},
		{"the first two go", [][4]int{{0, 2, 0, 0}}, "1\n2\n3\n", "3\n", "1,2d0\n< 1\n< 2\n"},
		{"one in the middle goes", [][4]int{{1, 1, 1, 0}}, "1\n2\n3\n", "1\n3\n", "2d1\n< 2\n"},
		{"three in the middle go", [][4]int{{1, 3, 1, 0}}, "1\n2\n3\n4\n5\n", "1\n5\n", "2,4d1\n< 2\n< 3\n< 4\n"},
		{"the last one goes", [][4]int{{2, 1, 2, 0}}, "1\n2\n3\n", "1\n2\n", "3d2\n< 3\n"},
		{"the last two go", [][4]int{{1, 2, 1, 0}}, "1\n2\n3\n", "1\n", "2,3d1\n< 2\n< 3\n"},
		{"all go", [][4]int{{0, 2, 0, 0}}, "1\n2\n", "", "1,2d0\n< 1\n< 2\n"},
		// new lines alone
		{"one comes at the beginning", [][4]int{{0, 0, 0, 1}}, "2\n", "1\n2\n", "0a1\n> 1\n"},
		{"two come at the beginning", [][4]int{{0, 0, 0, 2}}, "3\n", "1\n2\n3\n", "0a1,2\n> 1\n> 2\n"},
		{"one comes in the middle", [][4]int{{1, 0, 1, 1}}, "1\n3\n", "1\n2\n3\n", "1a2\n> 2\n"},
		{"three come in the middle", [][4]int{{1, 0, 1, 3}}, "1\n5\n", "1\n2\n3\n4\n5\n", "1a2,4\n> 2\n> 3\n> 4\n"},
		{"one comes at the end", [][4]int{{2, 0, 2, 1}}, "1\n2\n", "1\n2\n3\n", "2a3\n> 3\n"},
		{"two come at the end", [][4]int{{1, 0, 1, 2}}, "1\n", "1\n2\n3\n", "1a2,3\n> 2\n> 3\n"},
		{"all come", [][4]int{{0, 0, 0, 2}}, "", "1\n2\n", "0a1,2\n> 1\n> 2\n"},
		// both
		{"one for one at the beginning", [][4]int{{0, 1, 0, 1}}, "1\n2\n", "x\n2\n", "1c1\n< 1\n---\n> x\n"},
		{"one for two in the middle", [][4]int{{1, 1, 1, 2}}, "1\n2\n3\n", "1\nx\ny\n3\n", "2c2,3\n< 2\n---\n> x\n> y\n"},
		{"two for one in the middle", [][4]int{{1, 2, 1, 1}}, "1\n2\n3\n4\n", "1\nx\n4\n", "2,3c2\n< 2\n< 3\n---\n> x\n"},
		{"two for three at the end", [][4]int{{1, 2, 1, 3}}, "1\n2\n3\n", "1\nx\ny\nz\n", "2,3c2,4\n< 2\n< 3\n---\n> x\n> y\n> z\n"},
		{"all for all", [][4]int{{0, 2, 0, 2}}, "1\n2\n", "x\ny\n", "1,2c1,2\n< 1\n< 2\n---\n> x\n> y\n"},
		// several
		{"one of each kind", [][4]int{{0, 1, 0, 0}, {2, 0, 1, 2}, {3, 2, 4, 1}}, "1\n2\n3\n4\n5\n", "2\nx\ny\n3\nz\n", "1d0\n< 1\n2a2,3\n> x\n> y\n4,5c5\n< 4\n< 5\n---\n> z\n"},
		// places of the sides apart, and numbers of more than one digit
		{"numbers of two digits", [][4]int{{0, 0, 0, 9}, {9, 2, 18, 1}}, strings.Repeat("1\n", 11), strings.Repeat("1\n", 19), "0a1,9\n" + strings.Repeat("> 1\n", 9) + "10,11c19\n< 1\n< 1\n---\n> 1\n"},
		// not normal
		{"one goes, one comes", [][4]int{{1, 1, 1, 0}, {2, 0, 1, 1}}, "1\n2\n3\n", "1\nx\n3\n", "2c2\n< 2\n---\n> x\n"},
		{"one comes, one goes", [][4]int{{1, 0, 1, 1}, {1, 1, 2, 0}}, "1\n2\n3\n", "1\nx\n3\n", "2c2\n< 2\n---\n> x\n"},
		{"two that go one by one", [][4]int{{0, 1, 0, 0}, {1, 1, 0, 0}}, "1\n2\n", "", "1,2d0\n< 1\n< 2\n"},
		{"two that come one by one", [][4]int{{0, 0, 0, 1}, {0, 0, 1, 1}}, "", "1\n2\n", "0a1,2\n> 1\n> 2\n"},
		{"three that touch, and one that does not", [][4]int{{0, 1, 0, 1}, {1, 1, 1, 0}, {2, 0, 1, 1}, {3, 1, 3, 0}}, "1\n2\n3\n4\n", "x\ny\n3\n", "1,2c1,2\n< 1\n< 2\n---\n> x\n> y\n4d3\n< 4\n"},
		// without an end
		{"the old one", [][4]int{{1, 1, 1, 1}}, "1\n2", "1\n2\n", "2c2\n< 2\n" + noEnd + "---\n> 2\n"},
		{"the new one", [][4]int{{1, 1, 1, 1}}, "1\n2\n", "1\n2", "2c2\n< 2\n---\n> 2\n" + noEnd},
		{"both", [][4]int{{1, 1, 1, 1}}, "1\n2", "1\nx", "2c2\n< 2\n" + noEnd + "---\n> x\n" + noEnd},
		{"the last one of several", [][4]int{{0, 2, 0, 2}}, "1\n2", "x\ny", "1,2c1,2\n< 1\n< 2\n" + noEnd + "---\n> x\n> y\n" + noEnd},
		{"the one that goes", [][4]int{{1, 1, 1, 0}}, "1\n2", "1\n", "2d1\n< 2\n" + noEnd},
		{"the one that comes", [][4]int{{1, 0, 1, 1}}, "1\n", "1\n2", "1a2\n> 2\n" + noEnd},
		{"the one that stays", [][4]int{{0, 1, 0, 0}}, "1\n2", "2", "1d0\n< 1\n"},
		// Print does not ask whether what stays is the same.
		{"unlike lines that stay", [][4]int{{0, 1, 0, 1}}, "1\n2\n", "x\ny", "1c1\n< 1\n---\n> x\n"},
		{"unlike texts without a change", nil, "1\n", "2", ""},
		// lines of any bytes
		{"lines that look like others", [][4]int{{0, 3, 0, 3}}, "\n---\n\\ x\n", "> 1\n1c1\n\\", "1,3c1,3\n< \n< ---\n< \\ x\n---\n> > 1\n> 1c1\n> \\\n" + noEnd},
		{"bytes", [][4]int{{0, 1, 0, 1}}, "\x00\r\xff\n", "\t \x80\n", "1c1\n< \x00\r\xff\n---\n> \t \x80\n"},
	} {
		got, err := Print(script(c.s), lines.Split(c.a), lines.Split(c.b))
		isText(t, c.name, got, err, c.want)
	}
}

// N1: the errors of edits.Valid.
func TestPrintEditErrors(t *testing.T) {
	two := []string{"1\n", "2\n"}
	for _, s := range [][][4]int{
		{{0, 0, 0, 0}},
		{{0, 1, 0, 0}},
		{{0, 0, 0, 1}},
		{{2, 1, 2, 1}},
		{{1, 2, 1, 2}},
		{{0, 1, 1, 1}},
		{{-1, 1, -1, 1}},
		{{0, -1, 0, -1}},
		{{1, 1, 1, 1}, {0, 1, 0, 1}},
		{{0, 1, 0, 1}, {0, 1, 0, 1}},
		{{0, 2, 0, 2}, {2, 0, 2, 0}},
		{{math.MaxInt, math.MaxInt, math.MaxInt, math.MaxInt}},
		{{math.MinInt, math.MaxInt, math.MinInt, math.MaxInt}},
		{{1, math.MaxInt, 1, math.MaxInt}},
	} {
		got, err := Print(script(s), two, two)
		noText(t, fmt.Sprint(s), got, err, api.ErrEdit)
	}
	got, err := Print(nil, two, two[:1])
	noText(t, "no change, and a line too few", got, err, api.ErrEdit)
	long := slices.Repeat([]string{"\n"}, api.MaxBytes+1)
	for _, c := range [][2][]string{{long, long}, {long, nil}, {nil, long}} {
		got, err := Print(nil, c[0], c[1])
		noText(t, "too many lines", got, err, api.ErrArg)
	}
	got, err = Print(nil, long[1:], long[1:])
	isText(t, "as many lines as may be", got, err, "")
}

// notLines are lists that are no text's lines.
func notLines() [][]string {
	return [][]string{{""}, {"1", "2\n"}, {"1\n", ""}, {"", "1\n"}, {"1\n2\n"}, {"1\n2"}, {"\n\n"}, {"1\n\n", "2\n"}, {"1\n", "\n2"}}
}

// N1: lists that are no text's lines, on either side, whether a change tells them or they stay.
func TestPrintLineErrors(t *testing.T) {
	for _, bad := range notLines() {
		fine := slices.Repeat([]string{"x\n"}, len(bad))
		n := len(bad)
		for _, s := range [][][4]int{nil, {{0, n, 0, n}}, {{0, 1, 0, 1}}, {{n - 1, 1, n - 1, 1}}} {
			for _, c := range [][2][]string{{bad, fine}, {fine, bad}, {bad, bad}} {
				got, err := Print(script(s), c[0], c[1])
				noText(t, fmt.Sprintf("%v %q", s, c), got, err, api.ErrLine)
			}
		}
		got, err := Print(script([][4]int{{0, n, 0, 0}}), bad, nil)
		noText(t, fmt.Sprintf("%q that go", bad), got, err, api.ErrLine)
		got, err = Print(script([][4]int{{0, 0, 0, n}}), nil, bad)
		noText(t, fmt.Sprintf("%q that come", bad), got, err, api.ErrLine)
	}
}

// N1: the errors of edits.Valid are told ahead of ErrLine.
func TestPrintErrorsInTheirOrder(t *testing.T) {
	for _, bad := range notLines() {
		for _, c := range [][2][]string{{bad, {"x\n"}}, {{"x\n"}, bad}, {bad, bad}} {
			got, err := Print(script([][4]int{{0, 7, 0, 7}}), c[0], c[1])
			noText(t, fmt.Sprintf("%q", c), got, err, api.ErrEdit)
		}
	}
	long := slices.Repeat([]string{""}, api.MaxBytes+1)
	for _, c := range [][2][]string{{long, long}, {long, nil}, {nil, long}} {
		for _, s := range [][][4]int{nil, {{0, 0, 0, 0}}} {
			got, err := Print(script(s), c[0], c[1])
			noText(t, "too many lines that are none", got, err, api.ErrArg)
		}
	}
}

// allScripts are all edit scripts from n lines to m, those that are not normal too.
func allScripts(n, m int) [][]api.Change {
	var all [][]api.Change
	var ahead []api.Change
	var from func(a, b int)
	from = func(a, b int) {
		if a == n && b == m {
			all = append(all, slices.Clone(ahead))
		}
		if a < n && b < m {
			from(a+1, b+1)
		}
		for gone := range n - a + 1 {
			for come := range m - b + 1 {
				if gone+come > 0 {
					ahead = append(ahead, api.Change{A: a, N: gone, B: b, M: come})
					from(a+gone, b+come)
					ahead = ahead[:len(ahead)-1]
				}
			}
		}
	}
	from(0, 0)
	return all
}

// joined is a script with the changes that touch put together.
func joined(s []api.Change) []api.Change {
	var l []api.Change
	for _, c := range s {
		if len(l) > 0 {
			last := &l[len(l)-1]
			if last.A+last.N == c.A && last.B+last.M == c.B {
				last.N, last.M = last.N+c.N, last.M+c.M
				continue
			}
		}
		l = append(l, c)
	}
	return l
}

// told is the text of a script by the chapter's words.
func told(s []api.Change, a, b []string) string {
	var w strings.Builder
	for _, c := range joined(s) {
		w.WriteString(toldChange(c, a[c.A:c.A+c.N], b[c.B:c.B+c.M]))
	}
	return w.String()
}

// toldChange is a change's text by the chapter's words.
func toldChange(c api.Change, old, fresh []string) string {
	span := func(p, q int) string {
		if q > p {
			return fmt.Sprintf("%d,%d", p, q)
		}
		return fmt.Sprint(p)
	}
	p, q, r, s := c.A+1, c.A+c.N, c.B+1, c.B+c.M
	var text string
	switch {
	case c.M == 0:
		text = fmt.Sprintf("%sd%d\n", span(p, q), c.B)
	case c.N == 0:
		text = fmt.Sprintf("%da%s\n", c.A, span(r, s))
	default:
		text = fmt.Sprintf("%sc%s\n", span(p, q), span(r, s))
	}
	side := func(mark string, side []string) {
		for _, line := range side {
			text += mark + line
			if !strings.HasSuffix(line, "\n") {
				text += "\n" + noEnd
			}
		}
	}
	side("< ", old)
	if c.N > 0 && c.M > 0 {
		text += "---\n"
	}
	side("> ", fresh)
	return text
}

// numbered are so many lines, each another one, the last one with its end or without.
func numbered(mark string, n int, whole bool) []string {
	var l []string
	for i := range n {
		l = append(l, fmt.Sprintf("%s%d\n", mark, i))
	}
	if n > 0 && !whole {
		l[n-1] = strings.TrimSuffix(l[n-1], "\n")
	}
	return l
}

// eachSmall calls with each script of at most so many lines a side, and lines for it, their last ones with an end and without.
func eachSmall(most int, call func(s []api.Change, a, b []string)) {
	for n := range most + 1 {
		for m := range most + 1 {
			for _, s := range allScripts(n, m) {
				for code := range 4 {
					call(s, numbered("a", n, code&1 == 0), numbered("b", m, code&2 == 0))
				}
			}
		}
	}
}

// N1: all small scripts.
func TestPrintOfAllSmall(t *testing.T) {
	n := 0
	eachSmall(4, func(s []api.Change, a, b []string) {
		got, err := Print(s, a, b)
		isText(t, fmt.Sprintf("%v %q %q", s, a, b), got, err, told(s, a, b))
		n++
	})
	if n < 10000 {
		t.Error("only", n, "scripts")
	}
}
