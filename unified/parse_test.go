package unified

import (
	"fmt"
	"selvage/api"
	"selvage/lines"
	"strings"
	"testing"
)

// header is a header's two lines.
const header = "--- a\n+++ b\n"

// small is a hunk's text, of the rows -a and +b, and what it tells.
const small = "@@ -1 +1 @@\n-a\n+b\n"

func smallHunk() api.Hunk {
	return hunk(1, 1, 1, 1, "-a\n", "+b\n")
}

// read is the answer of some hunks behind the header.
func read(left string, l ...api.Hunk) answer {
	return answer{old: named("a"), fresh: named("b"), l: l, left: left}
}

// wrong is the answer of a text with a fault.
func wrong(line int, err error) answer {
	return answer{line: line, err: err}
}

// U2: what a header's line tells.
func TestParseNames(t *testing.T) {
	for _, c := range []struct {
		text string
		want api.Name
	}{
		{"a", named("a")},
		{"a/b c", named("a/b c")},
		{"", named("")},
		{`""`, named("")},
		{`"a"`, named("a")},
		{`"a b"`, named("a b")},
		{`"a\tb\nc\303\244\"\\"`, named("a\tb\nc\xc3\xa4\"\\")},
		{"\"a\tb\"", named("a\tb")},
		{"\xc3\xa4\r", named("\xc3\xa4\r")},
		{" a ", named(" a ")},
		{`a"b\`, named(`a"b\`)},
		{"--- x", named("--- x")},
		{"a\ts", api.Name{Path: "a", Stamp: "s"}},
		{"a b\t2020-01-01 00:00:00 +0000", api.Name{Path: "a b", Stamp: "2020-01-01 00:00:00 +0000"}},
		{"\"a b\"\ts t", api.Name{Path: "a b", Stamp: "s t"}},
		{"\ts", api.Name{Stamp: "s"}},
		{"\"\"\ts", api.Name{Stamp: "s"}},
		{"a\t", named("a")},
		{"\"a\"\t", named("a")},
		{"\t", named("")},
		{"a\t\"s\\", api.Name{Path: "a", Stamp: "\"s\\"}},
		// Whatever stands behind the byte 9 is the Stamp, and what is quoted may be any byte.
		{"a\ts\tt", api.Name{Path: "a", Stamp: "s\tt"}},
		{"a\t\t", api.Name{Path: "a", Stamp: "\t"}},
		{"a\ts\x00", api.Name{Path: "a", Stamp: "s\x00"}},
		{"a\x00b", named("a\x00b")},
		{`"\000"`, named("\x00")},
	} {
		isRead(t, "--- "+c.text+"\n+++ b\n"+small, answer{old: c.want, fresh: named("b"), l: []api.Hunk{smallHunk()}})
		isRead(t, "--- a\n+++ "+c.text+"\n"+small, answer{old: named("a"), fresh: c.want, l: []api.Hunk{smallHunk()}})
	}
}

// U2: headers that can't be, and the line of each.
func TestParseHeadErrors(t *testing.T) {
	for _, c := range []struct {
		text string
		line int
	}{
		{"", 1},
		{"\n", 1},
		{"x\n" + header + small, 1},
		{"+++ b\n--- a\n" + small, 1},
		{"+++ b\n" + small, 1},
		{small, 1},
		{"---\n+++ b\n" + small, 1},
		{"--- ", 2},
		{"--- \n", 2},
		{"---", 1},
		{"--", 1},
		{"---\ta\n+++ b\n" + small, 1},
		{" --- a\n+++ b\n" + small, 1},
		{"--- a", 2},
		{"--- a\n", 2},
		{"--- a\n\n", 2},
		{"--- a\n" + small, 2},
		{"--- a\n+++", 2},
		{"--- a\n++", 2},
		{"--- a\n+++\n" + small, 2},
		{"--- a\n+++\tb\n" + small, 2},
		{"--- a\n--- b\n" + small, 2},
		{"--- a\nx\n+++ b\n" + small, 2},
		{"--- a\n\n+++ b\n" + small, 2},
		{"*** a\n--- b\n" + small, 1},
	} {
		isRead(t, c.text, wrong(c.line, api.ErrHead))
	}
	for _, name := range []string{`"a`, `"`, `"a\`, `"\q"`, `"\400"`, `"\12"`, `"a\"`, // can't be read
		`"a"b`, `"a" `, `"a" s`, `"a""b"`, `""x`, "\"a\" \ts", "\"a\"x\t"} { // something else than a stamp behind it
		isRead(t, "--- "+name+"\n+++ b\n"+small, wrong(1, api.ErrHead))
		isRead(t, "--- a\n+++ "+name+"\n"+small, wrong(2, api.ErrHead))
		isRead(t, "--- "+name, wrong(1, api.ErrHead))
		isRead(t, "--- a\n+++ "+name, wrong(2, api.ErrHead))
		isRead(t, "--- "+name+"\nx\n", wrong(1, api.ErrHead))
	}
}

// U2: no hunk behind the header.
func TestParseWithoutHunk(t *testing.T) {
	for _, left := range []string{"", "\n", "x", "x\n", "\\\n", noEnd, "@@\n", "@@ x\n", "@@ +1 -1 @@\n", "@@-1 +1 @@\n", "@ -1 +1 @@\n", " @@ -1 +1 @@\n", "-a\n", "+b\n", " c\n", "--- a\n", header + small, "\n" + small, "x\n" + small, "\\\n" + small, "***************\n"} {
		isRead(t, header+left, wrong(3, api.ErrHunk))
	}
	isRead(t, "--- a\n+++ b", wrong(3, api.ErrHunk))
}

// U2: first lines of hunks that may be.
func TestParsePlaces(t *testing.T) {
	rows := map[[2]int]string{{0, 1}: "+b\n", {1, 0}: "-a\n", {1, 1}: "-a\n+b\n", {2, 1}: "-a\n b\n", {1, 2}: "+a\n b\n"}
	for _, c := range []struct {
		place string
		want  api.Hunk
	}{
		{"@@ -1 +1 @@", hunk(1, 1, 1, 1)},
		{"@@ -1,1 +1 @@", hunk(1, 1, 1, 1)},
		{"@@ -1 +1,1 @@", hunk(1, 1, 1, 1)},
		{"@@ -1,1 +1,1 @@", hunk(1, 1, 1, 1)},
		{"@@ -0,0 +1 @@", hunk(0, 0, 1, 1)},
		{"@@ -1 +0,0 @@", hunk(1, 1, 0, 0)},
		{"@@ -7,0 +8 @@", hunk(7, 0, 8, 1)},
		{"@@ -4,2 +77 @@", hunk(4, 2, 77, 1)},
		{"@@ -4 +77,2 @@", hunk(4, 1, 77, 2)},
		{"@@ -01 +0001 @@", hunk(1, 1, 1, 1)},
		{"@@ -01,0001 +1,01 @@", hunk(1, 1, 1, 1)},
		{"@@ -000,00 +1,01 @@", hunk(0, 0, 1, 1)},
		{"@@ -00000000000000000000000000000000010 +1,00000000000000000000000000000000000000001 @@", hunk(10, 1, 1, 1)},
		{"@@ -2147483647,0 +2147483646 @@", hunk(api.MaxNumber, 0, api.MaxNumber-1, 1)},
		{"@@ -002147483646 +2147483647,0 @@", hunk(api.MaxNumber-1, 1, api.MaxNumber, 0)},
		{"@@ -1 +1 @@ ", hunk(1, 1, 1, 1)},
		{"@@ -1 +1 @@ int f()", headed(hunk(1, 1, 1, 1), "int f()")},
		{"@@ -1 +1 @@  f ", headed(hunk(1, 1, 1, 1), " f ")},
		{"@@ -1 +1 @@ @@ -1 +1 @@", headed(hunk(1, 1, 1, 1), "@@ -1 +1 @@")},
		{"@@ -1 +1 @@ \x00\t\r\xff\\", headed(hunk(1, 1, 1, 1), "\x00\t\r\xff\\")},
		{"@@ -1 +1 @@ " + strings.Repeat("x", api.MaxPath), headed(hunk(1, 1, 1, 1), strings.Repeat("x", api.MaxPath))},
	} {
		told := rows[[2]int{c.want.N, c.want.M}]
		for _, line := range lines.Split(told) {
			c.want.Rows = append(c.want.Rows, row(line))
		}
		isRead(t, header+c.place+"\n"+told, read("", c.want))
	}
}

// U2: first lines of hunks in forms that can't be, as the first one and behind one; what is behind them, or wrong with it, says nothing.
func TestParsePlaceErrors(t *testing.T) {
	for _, place := range []string{
		"@@ -", "@@ - ", "@@ -1", "@@ -1 ", "@@ -1 +", "@@ -1 +1", "@@ -1 +1 ", "@@ -1 +1 @", "@@ -1 +1@@", "@@ -1 +1  @@", "@@ -1  +1 @@",
		"@@ - +1 @@", "@@ -1 + @@", "@@ -, +1 @@", "@@ -,1 +1 @@", "@@ -1, +1 @@", "@@ -1 +, @@", "@@ -1 +,1 @@", "@@ -1 +1, @@", "@@ -1,1,1 +1 @@", "@@ -1 +1,1,1 @@",
		"@@ -1 1 @@", "@@ -1 -1 @@", "@@ -1+1 @@", "@@ -1\t+1 @@", "@@ -1 +1\t@@", "@@ - 1 +1 @@", "@@ -1 + 1 @@", "@@ -1, 1 +1 @@", "@@ -1 ,1 +1 @@",
		"@@ -+1 +1 @@", "@@ --1 +1 @@", "@@ -1 ++1 @@", "@@ -1 +-1 @@", "@@ -1,-1 +1 @@", "@@ -1,+1 +1 @@", "@@ -1 +1,-0 @@",
		"@@ -x +1 @@", "@@ -1 +x @@", "@@ -1x +1 @@", "@@ -0x1 +1 @@", "@@ -1 +1_0 @@", "@@ -1.0 +1 @@", "@@ -1e1 +1 @@", "@@ -\xd9\xa1 +1 @@",
		"@@ -1 +1 @@x", "@@ -1 +1 @@@", "@@ -1 +1 @@\tx", "@@ -1 +1 @@\r", "@@ -1 +1 @@\\",
		"@@ -2147483648 +1 @@", "@@ -2147483648,0 +1 @@", "@@ -1,2147483648 +1 @@", "@@ -1 +2147483648 @@", "@@ -1 +2147483648,0 @@", "@@ -1 +1,2147483648 @@",
		"@@ -9223372036854775807 +1 @@", "@@ -9223372036854775808 +1 @@", "@@ -1 +1,18446744073709551615 @@", "@@ -1 +1,18446744073709551616 @@", "@@ -18446744073709551617 +1 @@", "@@ -1 +4294967297 @@",
		"@@ -1 +1,000000000000000000000000000000000000000099999999999999999999999999999 @@",
	} {
		for _, behind := range []string{"", "\n", "\n-a\n+b\n", "\n-a\n", "\n\\\n", "\n" + small} {
			isRead(t, header+place+behind, wrong(3, api.ErrHunk))
			isRead(t, header+small+place+behind, wrong(6, api.ErrHunk))
			isRead(t, header+small+noEnd+place+behind, wrong(7, api.ErrHunk))
		}
	}
}

// U2: rows that can be.
func TestParseRows(t *testing.T) {
	for _, c := range []struct {
		text string
		want api.Hunk
	}{
		{"@@ -1,2 +1,2 @@\n-a\n+b\n c\n", hunk(1, 2, 1, 2, "-a\n", "+b\n", " c\n")},
		{"@@ -1,2 +1,2 @@\n+b\n c\n-a\n", hunk(1, 2, 1, 2, "+b\n", " c\n", "-a\n")},
		{"@@ -1 +1 @@\n-\n+\n", hunk(1, 1, 1, 1, "-\n", "+\n")},
		{"@@ -1,2 +1 @@\n-\n \n", hunk(1, 2, 1, 1, "-\n", " \n")},
		{"@@ -1 +1 @@\n--- a\n+++ b\n", hunk(1, 1, 1, 1, "--- a\n", "+++ b\n")},
		{"@@ -1,2 +1 @@\n @@ -1 +1 @@\n-\\ x\n", hunk(1, 2, 1, 1, " @@ -1 +1 @@\n", "-\\ x\n")},
		{"@@ -1 +1 @@\n-\x00\t\r\n+\xff \n", hunk(1, 1, 1, 1, "-\x00\t\r\n", "+\xff \n")},
		// a line that is a byte 10 alone
		{"@@ -1,2 +1 @@\n\n-a\n", hunk(1, 2, 1, 1, " \n", "-a\n")},
		{"@@ -1,2 +1 @@\n-a\n\n", hunk(1, 2, 1, 1, "-a\n", " \n")},
		{"@@ -1,3 +1,2 @@\n\n-a\n\n", hunk(1, 3, 1, 2, " \n", "-a\n", " \n")},
		// a last line without an end
		{"@@ -1 +1 @@\n-a\n+b", hunk(1, 1, 1, 1, "-a\n", "+b\n")},
		{"@@ -1 +1 @@\n+a\n-b", hunk(1, 1, 1, 1, "+a\n", "-b\n")},
		{"@@ -1,2 +1 @@\n-a\n b", hunk(1, 2, 1, 1, "-a\n", " b\n")},
		{"@@ -1 +1 @@\n-a\n+", hunk(1, 1, 1, 1, "-a\n", "+\n")},
		{"@@ -1,2 +1 @@\n-a\n ", hunk(1, 2, 1, 1, "-a\n", " \n")},
		{"@@ -1 +1 @@\n-a\n+b\n\\", hunk(1, 1, 1, 1, "-a\n", "+b")},
		{"@@ -1 +1 @@\n-a\n+b\n\\ x", hunk(1, 1, 1, 1, "-a\n", "+b")},
		// lines that take an end
		{"@@ -1 +1 @@\n-a\n\\\n+b\n", hunk(1, 1, 1, 1, "-a", "+b\n")},
		{"@@ -1 +1 @@\n-a\n+b\n\\\n", hunk(1, 1, 1, 1, "-a\n", "+b")},
		{"@@ -1 +1 @@\n-a\n" + noEnd + "+b\n" + noEnd, hunk(1, 1, 1, 1, "-a", "+b")},
		{"@@ -1 +1 @@\n+b\n\\ whatever it says\n-a\n\\\\\\\n", hunk(1, 1, 1, 1, "+b", "-a")},
		{"@@ -1,2 +1 @@\n-a\n b\n\\+c\n", hunk(1, 2, 1, 1, "-a\n", " b")},
		{"@@ -1 +0,0 @@\n-a\n\\\n", hunk(1, 1, 0, 0, "-a")},
		{"@@ -0,0 +1 @@\n+ \n\\\n", hunk(0, 0, 1, 1, "+ ")},
	} {
		isRead(t, header+c.text, read("", c.want))
	}
}

// U2: rows that can't be, and the line of each.
func TestParseCountErrors(t *testing.T) {
	for _, c := range []struct {
		text string
		line int // from the hunk's first line on, that is 1
	}{
		// the text's end within a hunk
		{"@@ -1 +1 @@", 2},
		{"@@ -1 +1 @@\n", 2},
		{"@@ -1 +1 @@ f\n-a", 3},
		{"@@ -1 +1 @@\n-a\n", 3},
		{"@@ -1 +1 @@\n+a\n", 3},
		{"@@ -1,2 +1,2 @@\n a\n", 3},
		{"@@ -1,2 +1 @@\n-a\n+b\n", 4},
		{"@@ -1 +1,2 @@\n-a\n+b", 4},
		{"@@ -1 +1 @@\n-a\n\\\n", 4},
		{"@@ -1 +1 @@\n-a\n\\", 4},
		{"@@ -1,2147483647 +1,2147483647 @@\n-a\n+b\n", 4},
		// rows beyond the counts
		{"@@ -1 +1 @@\n-a\n-b\n+c\n", 3},
		{"@@ -1 +1 @@\n+a\n+b\n-c\n", 3},
		{"@@ -1 +1 @@\n-a\n b\n", 3},
		{"@@ -1 +1 @@\n+a\n b\n", 3},
		{"@@ -1 +1 @@\n-a\n\n", 3},
		{"@@ -0,0 +1 @@\n-a\n", 2},
		{"@@ -0,0 +1 @@\n a\n", 2},
		{"@@ -0,0 +1 @@\n\n", 2},
		{"@@ -1 +0,0 @@\n+a\n", 2},
		{"@@ -1 +0,0 @@\n a\n", 2},
		{"@@ -1,2 +1 @@\n a\n+b\n", 3},
		{"@@ -1,2 +1 @@\n a\n b\n", 3},
		// other lines
		{"@@ -1 +1 @@\nx\n-a\n+b\n", 2},
		{"@@ -1 +1 @@\n-a\nx\n+b\n", 3},
		{"@@ -1 +1 @@\n-a\n@@ -1 +1 @@\n", 3},
		{"@@ -1 +1 @@\n@@ -1 +1 @@\n-a\n+b\n", 2},
		{"@@ -1 +1 @@\n-a\n\tb\n", 3},
		{"@@ -1 +1 @@\n-a\n!b\n", 3},
		{"@@ -1 +1 @@\n-a\n\x00\n", 3},
		{"@@ -1 +1 @@\n-a\n\r\n+b\n", 3},
		{"@@ -1 +1 @@\n-a\nx", 3},
		// lines that begin with '\'
		{"@@ -1 +1 @@\n\\\n-a\n+b\n", 2},
		{"@@ -1 +1 @@\n\\", 2},
		{"@@ -1 +1 @@\n-a\n\\\n\\\n+b\n", 4},
		{"@@ -1 +1 @@\n-a\n+b\n\\\n\\\n", 5},
		{"@@ -1 +1 @@\n-a\n+b\n\\\n\\", 5},
		{"@@ -1 +1 @@\n-a\n\\\n+b\n\\\n\\ x\n", 6},
		{"@@ -0,0 +0,0 @@\n\\\n", 2},
		{"@@ -1,2 +1 @@\n-a\n\n\\\n\\\n", 5},
	} {
		isRead(t, header+c.text, wrong(2+c.line, api.ErrCount))
		// Behind another hunk it is the same, further down; also where it is out of order there.
		isRead(t, header+"@@ -0,0 +1 @@\n+x\n"+c.text, wrong(4+c.line, api.ErrCount))
		isRead(t, header+"@@ -9 +8,0 @@\n-x\n"+noEnd+c.text, wrong(5+c.line, api.ErrCount))
	}
}

// U2: what is left behind the last hunk.
func TestParseLeft(t *testing.T) {
	second := hunk(2, 1, 2, 1, "-c\n", "+d")
	for _, left := range []string{"", "\n", "x", "x\n", "\n\n", "+c\n", "-c\n", " c\n", "--- c\n+++ d\n" + small, header + small, "@@\n", "@@ 1 +1 @@\n", "@@+1 -1 @@", "x\n@@ -9 +9 @@\n", "-- \n2.30\n", "x\n\\\n", "\n\\\n", " \\", "diff a b", "\x00"} {
		isRead(t, header+small+left, read(left, smallHunk()))
		isRead(t, header+small+noEnd+left, read(left, hunk(1, 1, 1, 1, "-a\n", "+b")))
		isRead(t, header+small+"@@ -2 +2 @@\n-c\n+d\n"+noEnd+left, read(left, smallHunk(), second))
	}
	isRead(t, header+"@@ -1 +1 @@\n-a\n+b\n\\", read("", hunk(1, 1, 1, 1, "-a\n", "+b")))
}

// U2: hunks that may not be, and the line of each.
func TestParseHunkErrors(t *testing.T) {
	for _, text := range []string{
		"@@ -1 +1 @@\n a\n",
		"@@ -1 +1 @@\n\n",
		"@@ -1 +1 @@\n a",
		"@@ -1,2 +1,2 @@\n a\n\n",
		"@@ -0,0 +0,0 @@\n",
		"@@ -0,0 +0,0 @@",
		"@@ -1,0 +1,0 @@ f\n",
		"@@ -0 +1 @@\n-a\n+b\n",
		"@@ -1 +0 @@\n-a\n+b\n",
		"@@ -0,1 +1 @@\n-a\n+b\n",
		"@@ -2147483647 +1 @@\n-a\n+b\n",
		"@@ -1 +2147483647 @@\n-a\n+b\n",
		"@@ -2147483646,2 +1 @@\n-a\n b\n",
		"@@ -1 +1 @@ " + strings.Repeat("x", api.MaxPath+1) + "\n-a\n+b\n",
		// lines that are not the last ones of their sides
		"@@ -1,2 +0,0 @@\n-a\n\\\n-b\n",
		"@@ -1,2 +1 @@\n-a\n\\\n b\n",
		"@@ -1,2 +1 @@\n a\n\\\n-b\n",
		"@@ -1 +1,2 @@\n a\n\\\n+b\n",
		"@@ -0,0 +1,2 @@\n+a\n\\\n+b\n",
		"@@ -1,2 +1 @@\n-a\n\\\n+b\n-c\n",
		// lines that would be empty without their ends
		"@@ -1 +0,0 @@\n-\n\\\n",
		"@@ -0,0 +1 @@\n+\n\\\n",
		"@@ -1,2 +1 @@\n-a\n \n\\\n",
		"@@ -1,2 +1 @@\n-a\n\n\\\n",
		"@@ -1 +0,0 @@\n-\n\\",
	} {
		isRead(t, header+text, wrong(3, api.ErrHunk))
		if !strings.HasSuffix(text, "\n") {
			text += "\n"
		}
		// What stands behind such a hunk says nothing.
		for _, behind := range []string{"x\n", "@@ -\n", "@@ -9 +9 @@\nx\n", small} {
			isRead(t, header+text+behind, wrong(3, api.ErrHunk))
		}
		isRead(t, header+"@@ -0,0 +1 @@\n+x\n"+text, wrong(5, api.ErrHunk))
	}
}

// U2: hunks that are not in order, and the line of each.
func TestParseOrderErrors(t *testing.T) {
	const first = "@@ -2,2 +4,3 @@\n a\n+b\n c\n" // the old lines 2 and 3, the new ones 4 to 6
	for _, c := range []struct {
		text    string
		inOrder bool
	}{
		{"@@ -4 +7 @@\n-a\n+b\n", true},
		{"@@ -3 +7 @@\n-a\n+b\n", false},
		{"@@ -4 +6 @@\n-a\n+b\n", false},
		{"@@ -1 +9 @@\n-a\n+b\n", false},
		{"@@ -9 +1 @@\n-a\n+b\n", false},
		{"@@ -3,0 +7 @@\n+b\n", true},
		{"@@ -2,0 +7 @@\n+b\n", false},
		{"@@ -3,0 +6 @@\n+b\n", false},
		{"@@ -4 +6,0 @@\n-a\n", true},
		{"@@ -4 +5,0 @@\n-a\n", false},
		{"@@ -3 +6,0 @@\n-a\n", false},
		{first, false},
	} {
		got := parse(header + first + c.text)
		if c.inOrder {
			if got.err != nil || len(got.l) != 2 {
				t.Errorf("%q: %v", c.text, got)
			}
			isRead(t, header+first+c.text+first, wrong(7+strings.Count(c.text, "\n"), api.ErrOrder))
		} else if !got.same(wrong(7, api.ErrOrder)) {
			t.Errorf("%q: %v", c.text, got)
		}
	}
}

// U2: which error comes where several apply to one hunk, that is out of order, too: its first line is the sixth.
func TestParseErrorsOfOneHunk(t *testing.T) {
	const ahead = "--- a\n+++ b\n@@ -5 +5 @@\n-a\n+b\n"
	for _, c := range []struct {
		name, text string
		want       answer
	}{
		{"out of order alone", "@@ -5 +5 @@\n-a\n+b\n", wrong(6, api.ErrOrder)},
		{"and its end taken", "@@ -5 +5 @@\n-a\n+b\n\\\n", wrong(6, api.ErrOrder)},
		{"and one may not be", "@@ -5 +5 @@\n a\n", wrong(6, api.ErrHunk)},
		{"and one may not be, by an end", "@@ -5 +5 @@\n-a\n+\n\\\n", wrong(6, api.ErrHunk)},
		{"and the first line's form", "@@ -5 +5 @\n a\n", wrong(6, api.ErrHunk)},
		{"and too few rows", "@@ -5 +5 @@\n-a\n", wrong(8, api.ErrCount)},
		{"and a row too many", "@@ -5 +5 @@\n-a\n-b\n", wrong(8, api.ErrCount)},
		{"and another line", "@@ -5 +5 @@\nx\n", wrong(7, api.ErrCount)},
		{"and a second taker of an end", "@@ -5 +5 @@\n-a\n+b\n\\\n\\\n", wrong(10, api.ErrCount)},
		{"may not be, and a second taker of an end", "@@ -5 +5 @@\n a\n\\\n\\\n", wrong(9, api.ErrCount)},
		{"may not be, and a taker of no end", "@@ -5,0 +5,0 @@\n\\\n", wrong(7, api.ErrCount)},
		{"may not be, and too few rows", "@@ -0 +2147483647 @@\n-a\n", wrong(8, api.ErrCount)},
		{"out of order, ahead of a form that can't be", "@@ -5 +5 @@\n-a\n+b\n@@ -\n", wrong(6, api.ErrOrder)},
		{"out of order, ahead of too few rows", "@@ -5 +5 @@\n-a\n+b\n@@ -9 +9 @@\n", wrong(6, api.ErrOrder)},
		{"may not be, ahead of one out of order", "@@ -9 +9 @@\n a\n@@ -1 +1 @@\n-a\n+b\n", wrong(6, api.ErrHunk)},
		{"form ahead of a number too great and rows", "@@ -5 +2147483648 @@\nx\n", wrong(6, api.ErrHunk)},
	} {
		if got := parse(ahead + c.text); !got.same(c.want) {
			t.Errorf("%s: %v, not %v", c.name, got, c.want)
		}
	}
}

// long is a diff of some bytes in all, of one row that is as long as it must be.
func long(size int) (string, api.Hunk) {
	const ahead, behind = header + "@@ -1 +1 @@\n-", "\n+b\n"
	line := strings.Repeat("x", size-len(ahead)-len(behind))
	return ahead + line + behind, hunk(1, 1, 1, 1, "-"+line+"\n", "+b\n")
}

// U2: texts of MaxBytes bytes, and of one more.
func TestParseLong(t *testing.T) {
	const most = api.MaxBytes
	text, h := long(most)
	if got := parse(text); !got.same(read("", h)) {
		t.Error("a text at the limit:", got.line, got.err)
	}
	if got := parse(text + "\n"); !got.same(wrong(0, api.ErrLong)) {
		t.Error("a text beyond the limit:", got.line, got.err)
	}
	left := strings.Repeat("\n", most-len(header+small))
	if got := parse(header + small + left); !got.same(read(left, smallHunk())) {
		t.Error("a text with much left:", got.line, got.err)
	}
	for _, c := range []struct {
		text string
		line int
		err  error
	}{
		{strings.Repeat("\n", most), 1, api.ErrHead},
		{strings.Repeat("\n", most+1), 0, api.ErrLong},
		{strings.Repeat("-", most+1), 0, api.ErrLong},
		{"--- " + strings.Repeat("x", most-4), 2, api.ErrHead},
		{"--- \"" + strings.Repeat("x", most-5), 1, api.ErrHead},
		{header + "@@ -1 +1 @@\n" + strings.Repeat("\\", most-len(header)-12), 4, api.ErrCount},
		{header + "@@ -1," + strings.Repeat("0", most-len(header)-6), 3, api.ErrHunk},
		{header + "@@ -1," + strings.Repeat("9", most-len(header)-6), 3, api.ErrHunk},
		{header + "@@ -1,2147483647 +1,2147483647 @@\n" + strings.Repeat("\n", most-len(header)-34), most - len(header) - 34 + 4, api.ErrCount},
	} {
		if got := parse(c.text); !got.same(wrong(c.line, c.err)) {
			t.Errorf("%.30q: %d %v", c.text, got.line, got.err)
		}
	}
}

// P1, U2: as many rows, and as many hunks, as a text may have, end soon; and what is left is not gone through.
func TestParseEndsSoon(t *testing.T) {
	soon(t, "many rows", func() {
		const rows = api.MaxBytes - 100
		got := parse(fmt.Sprintf("%s@@ -1,%d +1,%d @@\n+x\n%s", header, rows, rows+1, strings.Repeat("\n", rows)))
		if got.err != nil || len(got.l) != 1 || len(got.l[0].Rows) != rows+1 {
			t.Error("many rows:", got.line, got.err)
		}
	})
	soon(t, "many hunks", func() {
		var b strings.Builder
		b.WriteString(header)
		n := 0
		for ; b.Len() < api.MaxBytes-40; n++ {
			fmt.Fprintf(&b, "@@ -0,0 +%d @@\n+\n", n+1)
		}
		got := parse(b.String())
		if got.err != nil || len(got.l) != n {
			t.Error("many hunks:", len(got.l), got.line, got.err)
		}
		again, err := Print(got.old, got.fresh, got.l)
		isErr(t, "many hunks", err, nil)
		if again != b.String() {
			t.Error("many hunks are printed otherwise")
		}
	})
	soon(t, "many texts with much left", func() {
		text := header + small + strings.Repeat("x\n", (api.MaxBytes-len(header+small))/2)
		for range 200000 {
			if _, _, _, _, _, err := Parse(text); err != nil {
				t.Error(err)
			}
		}
	})
}
