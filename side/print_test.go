package side

import (
	"fmt"
	"math"
	"selvage/api"
	"selvage/lines"
	"slices"
	"strings"
	"testing"
)

// isPrinted fails where Print of a script and two texts does not tell the lines that are wanted.
func isPrinted(t *testing.T, name string, s [][4]int, a, b string, width int, want ...string) {
	t.Helper()
	got, err := Print(script(s...), lines.Split(a), lines.Split(b), width)
	told := ""
	for _, line := range want {
		told += line + "\n"
	}
	isText(t, name, got, err, told)
}

// SI3: changes of each kind, at each place; width 13: the half 5, the second column at 8.
func TestPrint(t *testing.T) {
	for _, c := range []struct {
		name string
		s    [][4]int
		a, b string
		want []string
	}{
		{"nothing", nil, "", "", nil},
		{"no change", nil, "a\nbc\n", "a\nbc\n", []string{"a       a", "bc      bc"}},
		// old lines alone
		{"the first one goes", [][4]int{{0, 1, 0, 0}}, "1\n2\n", "2\n", []string{"1     <", "2       2"}},
		{"two in the middle go", [][4]int{{1, 2, 1, 0}}, "1\n2\n3\n4\n", "1\n4\n", []string{"1       1", "2     <", "3     <", "4       4"}},
		{"the last one goes", [][4]int{{1, 1, 1, 0}}, "1\n2\n", "1\n", []string{"1       1", "2     <"}},
		{"all go", [][4]int{{0, 2, 0, 0}}, "1\n2\n", "", []string{"1     <", "2     <"}},
		// new lines alone
		{"one comes at the beginning", [][4]int{{0, 0, 0, 1}}, "2\n", "1\n2\n", []string{"      > 1", "2       2"}},
		{"two come in the middle", [][4]int{{1, 0, 1, 2}}, "1\n4\n", "1\n2\n3\n4\n", []string{"1       1", "      > 2", "      > 3", "4       4"}},
		{"one comes at the end", [][4]int{{1, 0, 1, 1}}, "1\n", "1\n2\n", []string{"1       1", "      > 2"}},
		{"all come", [][4]int{{0, 0, 0, 2}}, "", "1\n2\n", []string{"      > 1", "      > 2"}},
		// both, as many, and more on either side
		{"one for one at the beginning", [][4]int{{0, 1, 0, 1}}, "1\n2\n", "x\n2\n", []string{"1     | x", "2       2"}},
		{"one for two in the middle", [][4]int{{1, 1, 1, 2}}, "1\n2\n3\n", "1\nx\ny\n3\n", []string{"1       1", "2     | x", "      > y", "3       3"}},
		{"three for one in the middle", [][4]int{{1, 3, 1, 1}}, "1\n2\n3\n4\n5\n", "1\nx\n5\n", []string{"1       1", "2     | x", "3     <", "4     <", "5       5"}},
		{"two for three at the end", [][4]int{{1, 2, 1, 3}}, "1\n2\n3\n", "1\nx\ny\nz\n", []string{"1       1", "2     | x", "3     | y", "      > z"}},
		{"all for all", [][4]int{{0, 2, 0, 2}}, "1\n2\n", "x\ny\n", []string{"1     | x", "2     | y"}},
		{"one of each kind", [][4]int{{0, 1, 0, 0}, {2, 0, 1, 1}, {3, 1, 3, 1}}, "1\n2\n3\n4\n", "2\nx\n3\ny\n", []string{"1     <", "2       2", "      > x", "3       3", "4     | y"}},
		// not normal: what touches is one change
		{"one goes, one comes", [][4]int{{1, 1, 1, 0}, {2, 0, 1, 1}}, "1\n2\n3\n", "1\nx\n3\n", []string{"1       1", "2     | x", "3       3"}},
		{"one comes, one goes", [][4]int{{1, 0, 1, 1}, {1, 1, 2, 0}}, "1\n2\n3\n", "1\nx\n3\n", []string{"1       1", "2     | x", "3       3"}},
		{"two that touch, of both", [][4]int{{0, 1, 0, 2}, {1, 2, 2, 1}}, "1\n2\n3\n", "x\ny\nz\n", []string{"1     | x", "2     | y", "3     | z"}},
		{"two go one by one, one comes", [][4]int{{0, 1, 0, 0}, {1, 0, 0, 1}, {1, 1, 1, 0}}, "1\n2\n", "x\n", []string{"1     | x", "2     <"}},
		// a change's lines that are alike, and lines that stay and are not
		{"alike within a change", [][4]int{{0, 2, 0, 3}}, "1\n2\n", "1\nx\n3\n", []string{"1       1", "2     | x", "      > 3"}},
		{"unlike without a change", nil, "1\n2\n", "1\nx\n", []string{"1       1", "2     | x"}},
		{"unlike ahead of a change, and behind it", [][4]int{{1, 1, 1, 0}}, "1\n2\n3\n", "x\ny\n", []string{"1     | x", "2     <", "3     | y"}},
	} {
		isPrinted(t, c.name, c.s, c.a, c.b, 13, c.want...)
		isPrinted(t, c.name+", a width more", c.s, c.a, c.b, 14, c.want...)
	}
}

// SI3, P11: last lines without an end: a mark where the lines are alike but for it, within a change and outside of one.
func TestPrintEnds(t *testing.T) {
	for _, s := range [][][4]int{nil, {{1, 1, 1, 1}}, {{0, 2, 0, 2}}, {{0, 1, 0, 1}}} {
		isPrinted(t, "the old one has none", s, "1\nab", "1\nab\n", 13, `1       1`, `ab    \ ab`)
		isPrinted(t, "the new one has none", s, "1\nab\n", "1\nab", 13, `1       1`, `ab    / ab`)
		isPrinted(t, "both have none", s, "1\nab", "1\nab", 13, `1       1`, `ab      ab`)
		isPrinted(t, "both have one", s, "1\nab\n", "1\nab\n", 13, `1       1`, `ab      ab`)
		isPrinted(t, "unlike, the old one has none", s, "1\nab", "1\nac\n", 13, `1       1`, `ab    | ac`)
		isPrinted(t, "unlike, the new one has none", s, "1\nab\n", "1\nac", 13, `1       1`, `ab    | ac`)
		isPrinted(t, "unlike, both have none", s, "1\nab", "1\nac", 13, `1       1`, `ab    | ac`)
		isPrinted(t, "an empty one beside one without an end", s, "1\n\n", "1\nac", 13, `1       1`, `      | ac`)
	}
	isPrinted(t, "it goes", [][4]int{{0, 1, 0, 0}}, "a", "", 13, "a     <")
	isPrinted(t, "it comes", [][4]int{{0, 0, 0, 1}}, "", "a", 13, "      > a")
	isPrinted(t, "it is not the last of a change on the other side", [][4]int{{0, 1, 0, 2}}, "a", "a\nb\n", 13, `a     \ a`, "      > b")
	isPrinted(t, "it is not the last of a change on the old side", [][4]int{{0, 2, 0, 1}}, "a\nb\n", "a", 13, "a     / a", "b     <")
	isPrinted(t, "blanks at the end are bytes", nil, "a ", "a\n", 13, "a     | a")
	isPrinted(t, "a byte 13 is no end", nil, "a\r\n", "a\n", 13, "a\r    | a")
	isPrinted(t, "a byte 13 without one", nil, "a\r", "a\r\n", 13, "a\r    \\ a\r")
}

// SI3: lines as wide as the half, wider, and alike as far as they are told.
func TestPrintCuts(t *testing.T) {
	change := [][4]int{{0, 1, 0, 1}}
	isPrinted(t, "as wide as the half", nil, "12345\n", "12345\n", 13, "12345   12345")
	isPrinted(t, "wider by one", nil, "123456\n", "123456\n", 13, "12345   12345")
	isPrinted(t, "narrower by one", nil, "1234\n", "1234\n", 13, "1234    1234")
	isPrinted(t, "far wider", change, strings.Repeat("x", 5000)+"\n", strings.Repeat("y", 5000), 13, "xxxxx | yyyyy")
	isPrinted(t, "unlike behind what is told", change, "123456\n", "123457\n", 13, "12345 | 12345")
	isPrinted(t, "one goes on", nil, "12345\n", "123456\n", 13, "12345 | 12345")
	isPrinted(t, "without an end, behind what is told", nil, "1234567", "1234567\n", 13, `12345 \ 12345`)
	isPrinted(t, "alone", [][4]int{{0, 1, 0, 0}}, "123456\n", "", 13, "12345 <")
	isPrinted(t, "alone, new", [][4]int{{0, 0, 0, 1}}, "", "123456\n", 13, "      > 12345")
	isPrinted(t, "the least width", change, "123\n", "456\n", 7, "12 | 45")
	isPrinted(t, "the least but one", change, "123\n", "456\n", 8, "12 | 45")
	isPrinted(t, "the next one", change, "123\n", "456\n", 9, "123 | 456")
	long := strings.Repeat("x", 2046)
	isPrinted(t, "the greatest width", nil, long+"y\n", long+"z\n", 4096, long+" | "+long)
	isPrinted(t, "the greatest but one", nil, long+"y\n", long+"y\n", 4095, long+"   "+long)
	isPrinted(t, "the greatest width, a short line", change, "a\n", "b\n", 4096, "a"+strings.Repeat(" ", 2046)+"| b")
}

// SI3: which blanks at a line's end are left out, and which stay.
func TestPrintBlanks(t *testing.T) {
	change, goes, comes := [][4]int{{0, 1, 0, 1}}, [][4]int{{0, 1, 0, 0}}, [][4]int{{0, 0, 0, 1}}
	// both empty: the mark goes too
	isPrinted(t, "empty lines", nil, "\n\n", "\n\n", 13, "", "")
	isPrinted(t, "empty lines as a change", change, "\n", "\n", 13, "")
	// no new line's bytes
	isPrinted(t, "an empty line goes", goes, "\n", "", 13, "      <")
	isPrinted(t, "an empty line comes", comes, "", "\n", 13, "      >")
	isPrinted(t, "a new empty one beside an old one", change, "ab\n", "\n", 13, "ab    |")
	isPrinted(t, "an old one with blanks at its end, alone", goes, "a  \n", "", 13, "a     <")
	isPrinted(t, "an old one of blanks beside an empty one", change, "   \n", "\n", 13, "      |")
	isPrinted(t, "an old one as wide as the half beside an empty one", change, "12345\n", "\n", 13, "12345 |")
	// new lines' own blanks
	isPrinted(t, "blanks at both ends", nil, "a  \n", "a  \n", 13, "a       a  ")
	isPrinted(t, "blanks alone", nil, "  \n", "  \n", 13, "          ")
	isPrinted(t, "a blank comes", comes, "", " \n", 13, "      >  ")
	isPrinted(t, "a blank beside an old line", change, "a\n", " \n", 13, "a     |  ")
	isPrinted(t, "blanks that fill the half", nil, "     \n", "     \n", 13, "             ")
	// an empty old one
	isPrinted(t, "an old empty one beside a new one", change, "\n", "cd\n", 13, "      | cd")
}

// SI3: tabulators in both columns, and new lines of which nothing is told.
func TestPrintTabs(t *testing.T) {
	change, goes, comes := [][4]int{{0, 1, 0, 1}}, [][4]int{{0, 1, 0, 0}}, [][4]int{{0, 0, 0, 1}}
	blanks := func(n int) string { return strings.Repeat(" ", n) }
	// width 40: the half 18, the second column at 21, its first stop three columns behind
	isPrinted(t, "at the beginning", nil, "\tx\n", "\tx\n", 40, blanks(8)+"x"+blanks(9)+blanks(3)+blanks(3)+"x")
	isPrinted(t, "within", change, "a\tb\n", "cd\te\n", 40, "a"+blanks(7)+"b"+blanks(9)+" | "+"cd"+blanks(1)+"e")
	isPrinted(t, "at the stop", change, "12345678\tb\n", "123\te\n", 40, "12345678"+blanks(8)+"b"+blanks(1)+" | "+"123"+blanks(8)+"e")
	isPrinted(t, "at the end", change, "a\t\n", "b\t\n", 40, "a"+blanks(7)+blanks(10)+" | "+"b"+blanks(2))
	isPrinted(t, "across the half", change, "\t\t\tb\n", "\t\t\te\n", 40, blanks(18)+" | "+blanks(11))
	isPrinted(t, "across the new half's end", change, "a\n", "\t\t1234567\te\n", 40, "a"+blanks(17)+" | "+blanks(11)+"1234567")
	isPrinted(t, "old ones alone", goes, "\t\n", "", 40, blanks(18)+" <")
	isPrinted(t, "new ones alone", comes, "", "\t\n", 40, blanks(18)+" > "+blanks(3))
	// width 13: a byte 9 takes more than the old half; the second column begins at a stop, and it takes more than the new half too
	isPrinted(t, "nothing of either side", nil, "\tx\n", "\tx\n", 13, "")
	isPrinted(t, "nothing of either side, unlike", change, "\tx\n", "\ty\n", 13, "      |")
	isPrinted(t, "nothing of either side but an end", nil, "\tx", "\tx\n", 13, `      \`)
	isPrinted(t, "nothing of a new one", comes, "", "\ty\n", 13, "      >")
	isPrinted(t, "nothing of an old one", goes, "\ty\n", "", 13, "      <")
	isPrinted(t, "nothing of a new one beside an old one", change, "a\n", "\ty\n", 13, "a     |")
	// width 11: the half 4, the second column at 7, one column ahead of a stop
	isPrinted(t, "nothing of the old side", nil, "\tx\n", "\tx\n", 11, blanks(7)+" x")
	isPrinted(t, "two on the new side", nil, "\t\tx\n", "\t\tx\n", 11, blanks(7)+" ")
	// width 19: the half 8, the second column at 11
	isPrinted(t, "just the old half", goes, "\tx\n", "", 19, blanks(8)+" <")
	isPrinted(t, "one and more", nil, "\tx\n", "\tx\n", 19, blanks(8)+blanks(3)+blanks(5)+"x")
	isPrinted(t, "a byte 9 beside a new empty line", change, "a\t\n", "\n", 19, "a"+blanks(7)+" |")
	isPrinted(t, "a byte 9 that is the half's last column", change, "1234567\tx\n", "y\n", 19, "1234567"+" "+" | y")
}

// SI3: lines of any bytes.
func TestPrintBytes(t *testing.T) {
	isPrinted(t, "bytes", [][4]int{{0, 1, 0, 1}}, "\x00\xff\n", "\xc3\xa4\r\n", 13, "\x00\xff    | \xc3\xa4\r")
	isPrinted(t, "marks", nil, "<|>\n", "<|>\n", 13, "<|>     <|>")
	isPrinted(t, "half of a letter", nil, "abcd\xc3\xa4\n", "abcd\xc3\xa4\n", 13, "abcd\xc3   abcd\xc3")
}

// notLines are lists that are no text's lines.
func notLines() [][]string {
	return [][]string{{""}, {"1", "2\n"}, {"1\n", ""}, {"", "1\n"}, {"1\n2\n"}, {"1\n2"}, {"\n\n"}, {"1\n\n", "2\n"}, {"1\n", "\n2"}, {"1", "2"}}
}

// badWidths are widths that Columns does not take.
func badWidths() []int {
	return []int{math.MinInt, -13, -1, 0, 6, 4097, math.MaxInt}
}

// SI3: Columns' error, whatever else is wrong.
func TestPrintWidthErrors(t *testing.T) {
	for _, width := range badWidths() {
		for _, s := range append(badScripts(), nil, [][4]int{{0, 1, 0, 1}}) {
			for _, l := range append(notLines(), nil, []string{"1\n", "2"}) {
				got, err := Print(script(s...), l, l, width)
				noText(t, fmt.Sprintf("%v %q %d", s, l, width), got, err, api.ErrArg)
			}
		}
	}
}

// SI3: the errors of edits.Valid, of a text's lines and of others.
func TestPrintEditErrors(t *testing.T) {
	for _, s := range badScripts() {
		for _, l := range [][]string{{"1\n", "2\n"}, {"1\n", "2"}, {"1", "2"}, {"", ""}, {"1\n2\n", "3\n"}} {
			for _, width := range []int{7, 80, 4096} {
				got, err := Print(script(s...), l, l, width)
				noText(t, fmt.Sprintf("%v %q %d", s, l, width), got, err, api.ErrEdit)
			}
		}
	}
	for _, c := range [][2][]string{{{"1\n"}, nil}, {nil, {"1\n"}}, {{"1\n", "2"}, {"1\n"}}, {{""}, nil}, {nil, {"1\n2"}}} {
		got, err := Print(nil, c[0], c[1], 13)
		noText(t, fmt.Sprintf("no change of %q", c), got, err, api.ErrEdit)
	}
	long := slices.Repeat([]string{"\n"}, api.MaxBytes+1)
	bad := slices.Concat(long[1:], []string{""})
	for _, c := range [][2][]string{{long, long}, {long, nil}, {nil, long}, {bad, bad}, {bad, nil}, {nil, bad}} {
		for _, s := range [][]api.Change{nil, script([4]int{0, 0, 0, 0})} {
			got, err := Print(s, c[0], c[1], 13)
			noText(t, "too many lines", got, err, api.ErrArg)
		}
	}
}

// SI3: lists that are no text's lines, on either side, whether a change tells them or they stay: ErrLine.
func TestPrintLineErrors(t *testing.T) {
	for _, bad := range notLines() {
		n := len(bad)
		fine, cut := slices.Repeat([]string{"x\n"}, n), append(slices.Repeat([]string{"x\n"}, n-1), "x")
		for _, s := range [][][4]int{nil, {{0, n, 0, n}}, {{0, 1, 0, 1}}, {{n - 1, 1, n - 1, 1}}} {
			for _, c := range [][2][]string{{bad, fine}, {fine, bad}, {bad, bad}, {bad, cut}, {cut, bad}} {
				got, err := Print(script(s...), c[0], c[1], 13)
				noText(t, fmt.Sprintf("%v %q", s, c), got, err, api.ErrLine)
			}
		}
		got, err := Print(script([4]int{0, n, 0, 0}), bad, nil, 13)
		noText(t, fmt.Sprintf("%q goes", bad), got, err, api.ErrLine)
		got, err = Print(script([4]int{0, 0, 0, n}), nil, bad, 13)
		noText(t, fmt.Sprintf("%q comes", bad), got, err, api.ErrLine)
	}
}

// without stands for the line of a side that has none.
const without = "none\n\n"

// rowByWords is a line that Print tells, by the chapter's words: all of its blanks first, and those at the end taken off.
func rowByWords(old, fresh string, half int) string {
	mark := "|"
	switch {
	case fresh == without:
		mark, fresh = "<", ""
	case old == without:
		mark, old = ">", ""
	case old == fresh:
		mark = " "
	case old == fresh+"\n":
		mark = "/"
	case old+"\n" == fresh:
		mark = `\`
	}
	left, right := cutByWords(old, 0, half), cutByWords(fresh, half+3, half)
	row := left + strings.Repeat(" ", half-len(left)) + " " + mark + " " + right
	for right == "" && len(row) > len(left) && row[len(row)-1] == ' ' {
		row = row[:len(row)-1]
	}
	return row + "\n"
}

// printByWords is what Print tells of a script, by the chapter's words, and how many lines it is to be, by SI4.
func printByWords(s []api.Change, a, b []string, width int) (string, int) {
	half := (width - 3) / 2
	text, n, common := "", 0, len(a)
	i, j := 0, 0
	stays := func(until int) {
		for ; i < until; i, j = i+1, j+1 {
			text += rowByWords(a[i], b[j], half)
		}
	}
	for _, c := range joined(s) {
		stays(c.A)
		for k := range max(c.N, c.M) {
			old, fresh := without, without
			if k < c.N {
				old = a[c.A+k]
			}
			if k < c.M {
				fresh = b[c.B+k]
			}
			text += rowByWords(old, fresh, half)
		}
		i, j = c.A+c.N, c.B+c.M
		n, common = n+max(c.N, c.M), common-c.N
	}
	stays(len(a))
	return text, n + common
}

// isByWords fails where Print does not tell what the words say, or not as many lines, or one that is too wide.
func isByWords(t *testing.T, s []api.Change, a, b []string, width int) {
	t.Helper()
	want, n := printByWords(s, a, b, width)
	got, err := Print(s, a, b, width)
	what := fmt.Sprintf("%v %q %q %d", s, a, b, width)
	isText(t, what, got, err, want)
	if lines.Count(got) != n || got != "" && !lines.Whole(got) {
		t.Errorf("%s: %q has not %d lines", what, got, n)
	}
	for _, line := range lines.Split(got) {
		// No byte takes more than a column, and the end none.
		if len(line)-1 > width || strings.Contains(line, "\t") {
			t.Errorf("%s: %q", what, line)
		}
	}
}

// SI3, SI4: all small scripts, with texts of all kinds of lines.
func TestPrintOfAllSmall(t *testing.T) {
	texts := []string{"", "a\n", "a", "\n", "a\nb\n", "a\nb", "\n\t\n", "a b \n\n", "\t", "a\nb\n123456789\n", "a\nb\nc", "\n\n \n"}
	n := 0
	for _, x := range texts {
		for _, y := range texts {
			a, b := lines.Split(x), lines.Split(y)
			for _, s := range allScripts(len(a), len(b)) {
				for _, width := range []int{7, 11, 13, 18, 19, 30} {
					isByWords(t, s, a, b, width)
					n++
				}
			}
		}
	}
	if n < 10000 {
		t.Error("only", n)
	}
}

// SI3, SI4: many longer texts and scripts, at many widths.
func TestPrintOfMany(t *testing.T) {
	next := steps(21)
	text := func() []string {
		var b strings.Builder
		for range next.below(80) {
			b.WriteByte("ab \t\n\n\xff1"[next.below(8)])
		}
		return lines.Split(b.String())
	}
	for range 20000 {
		a, b := text(), text()
		if next.below(3) == 0 {
			// the same lines, but for the last one's end
			b = lines.Split(strings.TrimSuffix(lines.Join(a), "\n"))
		}
		isByWords(t, randomScript(&next, len(a), len(b)), a, b, 7+next.below(60))
	}
	for _, width := range []int{4095, 4096} {
		for range 50 {
			a, b := text(), text()
			isByWords(t, randomScript(&next, len(a), len(b)), a, b, width)
		}
	}
}
