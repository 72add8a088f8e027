package context

import (
	"fmt"
	"selvage/api"
	"selvage/lines"
	"strings"
	"testing"
)

const (
	// header is a header's two lines.
	header = "*** a\n--- b\n"

	// small is a hunk's text, of the rows -a and +b.
	small = fifteen + "\n*** 1 ****\n! a\n--- 1 ----\n! b\n"
)

// smallHunk is what small tells.
func smallHunk() api.Hunk {
	return hunk(1, 1, 1, 1, "-a\n", "+b\n")
}

// read is the answer of some hunks behind the header.
func read(left string, l ...api.Hunk) answer {
	return answer{old: named("a"), fresh: named("b"), l: l, left: left}
}

// wrong is the answer of a text with a fault.
func wrong(line int, err error) answer {
	return answer{line: line, err: err}
}

// parts is a hunk's text by its two ranges and the rows of both parts, each with its end.
func parts(oldRange, oldRows, freshRange, freshRows string) string {
	return fifteen + "\n*** " + oldRange + " ****\n" + oldRows + "--- " + freshRange + " ----\n" + freshRows
}

// CX2: what a header's line tells.
func TestParseNames(t *testing.T) {
	for _, c := range []struct {
		text string
		want api.Name
	}{
		{"a", named("a")},
		{"a/b c", named("a/b c")},
		{"", named("")},
		{`""`, named("")},
		{`"a b"`, named("a b")},
		{`"a\tb\nc\303\244\"\\"`, named("a\tb\nc\xc3\xa4\"\\")},
		{"\"a\tb\"", named("a\tb")},
		{"\xc3\xa4\r", named("\xc3\xa4\r")},
		{" a ", named(" a ")},
		{`a"b\`, named(`a"b\`)},
		{"*** x", named("*** x")},
		{"1,2 ****", named("1,2 ****")},
		{"a\ts", api.Name{Path: "a", Stamp: "s"}},
		{"a b\t2020-01-01 00:00:00 +0000", api.Name{Path: "a b", Stamp: "2020-01-01 00:00:00 +0000"}},
		{"\"a b\"\ts t", api.Name{Path: "a b", Stamp: "s t"}},
		{"\ts", api.Name{Stamp: "s"}},
		{"\"\"\ts", api.Name{Stamp: "s"}},
		{"a\t", named("a")},
		{"\"a\"\t", named("a")},
		{"\t", named("")},
		{"a\t\"s\\", api.Name{Path: "a", Stamp: "\"s\\"}},
		// Whatever stands behind the byte 9 is the Stamp, and what is quoted may be any byte.
		{"a\ts\tt", api.Name{Path: "a", Stamp: "s\tt"}},
		{"a\ts\x00", api.Name{Path: "a", Stamp: "s\x00"}},
		{`"\000"`, named("\x00")},
	} {
		isRead(t, "*** "+c.text+"\n--- b\n"+small, answer{old: c.want, fresh: named("b"), l: []api.Hunk{smallHunk()}})
		isRead(t, "*** a\n--- "+c.text+"\n"+small, answer{old: named("a"), fresh: c.want, l: []api.Hunk{smallHunk()}})
	}
}

// CX2: headers that can't be, and the line of each.
func TestParseHeadErrors(t *testing.T) {
	for _, c := range []struct {
		text string
		line int
	}{
		{"", 1},
		{"\n", 1},
		{"x\n" + header + small, 1},
		{"--- b\n*** a\n" + small, 1},
		{"--- b\n" + small, 1},
		{"--- a\n+++ b\n" + small, 1},
		{small, 1},
		{"***\n--- b\n" + small, 1},
		{"***", 1},
		{"**", 1},
		{"*", 1},
		{"***\ta\n--- b\n" + small, 1},
		{"**** a\n--- b\n" + small, 1},
		{" *** a\n--- b\n" + small, 1},
		{"*** ", 2},
		{"*** \n", 2},
		{"*** a", 2},
		{"*** a\n", 2},
		{"*** a\n\n", 2},
		{"*** a\n" + small, 2},
		{"*** a\n---", 2},
		{"*** a\n--", 2},
		{"*** a\n---\n" + small, 2},
		{"*** a\n---\tb\n" + small, 2},
		{"*** a\n*** b\n" + small, 2},
		{"*** a\n+++ b\n" + small, 2},
		{"*** a\nx\n--- b\n" + small, 2},
		{"*** a\n\n--- b\n" + small, 2},
	} {
		isRead(t, c.text, wrong(c.line, api.ErrHead))
	}
	for _, name := range []string{`"a`, `"`, `"a\`, `"\q"`, `"\400"`, `"\12"`, `"a\"`, // can't be read
		`"a"b`, `"a" `, `"a" s`, `"a""b"`, `""x`, "\"a\" \ts", "\"a\"x\t"} { // something else than a stamp behind it
		isRead(t, "*** "+name+"\n--- b\n"+small, wrong(1, api.ErrHead))
		isRead(t, "*** a\n--- "+name+"\n"+small, wrong(2, api.ErrHead))
		isRead(t, "*** "+name, wrong(1, api.ErrHead))
		isRead(t, "*** a\n--- "+name, wrong(2, api.ErrHead))
		isRead(t, "*** "+name+"\nx\n", wrong(1, api.ErrHead))
	}
}

// CX2: no hunk behind the header.
func TestParseWithoutHunk(t *testing.T) {
	for _, left := range []string{"", "\n", "x", "x\n", "\\\n", noEnd, "*** 1 ****\n", "--- 1 ----\n", "! a\n", "  c\n", header + small, "\n" + small, "x\n" + small, "\\\n" + small, "@@ -1 +1 @@\n", " " + small, "\t" + small} {
		isRead(t, header+left, wrong(3, api.ErrHunk))
	}
	isRead(t, "*** a\n--- b", wrong(3, api.ErrHunk))
}

// CX2: lines of fourteen, fifteen and sixteen stars, and what stands behind them; where a hunk must begin and where one may.
func TestParseStars(t *testing.T) {
	behind := strings.TrimPrefix(small, fifteen)
	second := strings.ReplaceAll(behind, "1", "2")
	for _, c := range []struct {
		first string
		begun bool
		head  string
	}{
		{strings.Repeat("*", 14), false, ""},
		{strings.Repeat("*", 14) + " f", false, ""},
		{strings.Repeat("*", 14) + " *", false, ""},
		{fifteen, true, ""},
		{fifteen + " ", true, ""},
		{fifteen + " f", true, "f"},
		{fifteen + " int f(a, b)", true, "int f(a, b)"},
		{fifteen + "  f ", true, " f "},
		{fifteen + " *", true, "*"},
		{fifteen + " " + fifteen, true, fifteen},
		{fifteen + " \x00\t\r\xff\\", true, "\x00\t\r\xff\\"},
		{fifteen + " " + strings.Repeat("x", api.MaxPath), true, strings.Repeat("x", api.MaxPath)},
		{fifteen + "f", false, ""},
		{fifteen + "\tf", false, ""},
		{fifteen + "\r", false, ""},
		{fifteen + "\\", false, ""},
		{strings.Repeat("*", 16), false, ""},
		{strings.Repeat("*", 16) + " f", false, ""},
		{strings.Repeat("*", 30), false, ""},
		{" " + fifteen, false, ""},
		{"", false, ""},
	} {
		if c.begun {
			isRead(t, header+c.first+behind, read("", headed(smallHunk(), c.head)))
			isRead(t, header+small+c.first+second, read("", smallHunk(), headed(hunk(2, 1, 2, 1, "-a\n", "+b\n"), c.head)))
			isRead(t, header+c.first, wrong(4, api.ErrHunk))
			isRead(t, header+small+c.first, wrong(9, api.ErrHunk))
		} else {
			isRead(t, header+c.first+behind, wrong(3, api.ErrHunk))
			isRead(t, header+small+c.first+second, read(c.first+second, smallHunk()))
			isRead(t, header+c.first, wrong(3, api.ErrHunk))
			isRead(t, header+small+c.first, read(c.first, smallHunk()))
		}
	}
	tooLong := fifteen + " " + strings.Repeat("x", api.MaxPath+1)
	isRead(t, header+tooLong+behind, wrong(3, api.ErrHunk))
	isRead(t, header+small+tooLong+second, wrong(8, api.ErrHunk))
}

// CX2: ranges that can be; each is told of a number of lines.
func TestParseRanges(t *testing.T) {
	const most = api.MaxNumber
	for _, c := range []struct {
		text     string
		at, many int
	}{
		{"1", 1, 1},
		{"1", 1, 0},
		{"0", 0, 0},
		{"7", 7, 0},
		{"7", 7, 1},
		{"1,1", 1, 1},
		{"1,2", 1, 2},
		{"9,11", 9, 3},
		{"01", 1, 1},
		{"000", 0, 0},
		{"0001,01", 1, 1},
		{"09,000010", 9, 2},
		{strings.Repeat("0", 40) + "8," + strings.Repeat("0", 50) + "9", 8, 2},
		{"2147483647", most, 0},
		{"2147483646", most - 1, 1},
		{"002147483645,02147483646", most - 2, 2},
	} {
		n := c.many
		come, gone := strings.Repeat("+ a\n", n), strings.Repeat("- a\n", n)
		changed := parts(c.text, strings.Repeat("! a\n", n), "5,6", "! b\n! c\n")
		turned := parts("5,6", "! b\n! c\n", c.text, strings.Repeat("! a\n", n))
		if n == 0 {
			changed = parts(c.text, "", "5,6", "+ b\n+ c\n")
			turned = parts("5,6", "- b\n- c\n", c.text, "")
		} else {
			isRead(t, header+parts(c.text, gone, "3", ""), read("", hunk(c.at, n, 3, 0, rows("-a\n", n)...)))
			isRead(t, header+parts("3", "", c.text, come), read("", hunk(3, 0, c.at, n, rows("+a\n", n)...)))
		}
		isRead(t, header+changed, read("", hunk(c.at, n, 5, 2, append(rows("-a\n", n), "+b\n", "+c\n")...)))
		isRead(t, header+turned, read("", hunk(5, 2, c.at, n, append([]string{"-b\n", "-c\n"}, rows("+a\n", n)...)...)))
	}
}

// rows are so many rows that are the same.
func rows(text string, n int) []string {
	var l []string
	for range n {
		l = append(l, text)
	}
	return l
}

// CX2: the lines ahead of both parts in forms that can't be, and the line of each; what is behind them, or wrong with it, says nothing.
func TestParseRangeErrors(t *testing.T) {
	bad := []string{
		"", " ", ",", "1,", ",1", "1,,2", "1,1,1", "1 ,1", "1, 1", " 1", "1 ", "1\t", "1.2", "1-2", "1;2",
		"2,1", "1,0", "01,00", "10,9", "2147483647,2147483646", // the second below the first
		"+1", "-1", "1,+2", "1,-2", "-0", "x", "1x", "x1", "0x1", "1_0", "1e1", "1.0", "\xd9\xa1", "1,x", "1,2x",
		"2147483648", "1,2147483648", "2147483648,2147483649", "02147483648", "4294967297", "9223372036854775807", "9223372036854775808", "18446744073709551615", "18446744073709551617", "1,18446744073709551618",
		"1,99999999999999999999999999999999999999",
	}
	var olds, news []string
	for _, text := range bad {
		olds = append(olds, "*** "+text+" ****")
		news = append(news, "--- "+text+" ----")
	}
	olds = append(olds, "", "x", "1", "1 ****", "1,2 ****", "***", "*** ", "*** 1", "*** 1 ", "*** 1 *", "*** 1 ***", "*** 1****", "*** 1  ****", "***1 ****", "***  1 ****", "** 1 ****", "**** 1 ****", " *** 1 ****", "*** ****", "***  ****",
		"*** 1 *****", "*** 1 **** ", "*** 1 ****x", "*** 1 **** f", "*** 1 ****\r", "*** 1 ****\\", // something behind
		"--- 1 ----", "--- 1 ****", "*** 1 ----", "  a", "! a", "\\", fifteen, "*** a", "@@ -1 +1 @@")
	news = append(news, "", "x", "1", "1 ----", "1,2 ----", "---", "--- ", "--- 1", "--- 1 ", "--- 1 -", "--- 1 ---", "--- 1----", "--- 1  ----", "---1 ----", "---  1 ----", "-- 1 ----", "---- 1 ----", " --- 1 ----", "--- ----", "---  ----",
		"--- 1 -----", "--- 1 ---- ", "--- 1 ----x", "--- 1 ---- f", "--- 1 ----\r", "--- 1 ----\\",
		"*** 1 ****", "*** 1 ----", "--- 1 ****", "-", " ", "!", "-a", "!a", " a", "+ a", "+", "\ta", fifteen, "--- a", "@@ -1 +1 @@")
	for _, line := range olds {
		for _, behind := range []string{"", "\n", "\n! a\n--- 1 ----\n! b\n", "\n\\\n", "\n" + small} {
			text := fifteen + " f\n" + line + behind
			isRead(t, header+text, wrong(4, api.ErrHunk))
			isRead(t, header+small+text, wrong(9, api.ErrHunk))
			isRead(t, header+small+noEnd+text, wrong(10, api.ErrHunk))
		}
	}
	for _, line := range news {
		for _, behind := range []string{"", "\n", "\n! b\n", "\n\\\n", "\n" + small} {
			for _, part := range []string{"", "! a\n", "  a\n- b\n", "- a\n" + noEnd} {
				text := fifteen + "\n*** 1 ****\n" + part + line + behind
				n := strings.Count(part, "\n")
				isRead(t, header+text, wrong(5+n, api.ErrHunk))
				isRead(t, header+small+text, wrong(10+n, api.ErrHunk))
			}
		}
	}
}

// CX2: where the text ends too early: one line more than there are.
func TestParseTooShort(t *testing.T) {
	text := header + parts("1,2", "  x\n! a\n", "1,2", "  x\n! b\n")
	all := lines.Split(text)
	for i := range 9 {
		want := wrong(i+1, api.ErrHunk)
		switch {
		case i < 2:
			want.err = api.ErrHead
		case i == 7:
			want = wrong(3, api.ErrHunk) // no row in the new part, and a change in the old one
		case i == 8:
			want = wrong(3, api.ErrHunk) // a change in the old part alone
		}
		isRead(t, lines.Join(all[:i]), want)
		if i > 0 {
			isRead(t, strings.TrimSuffix(lines.Join(all[:i]), "\n"), want)
		}
	}
	whole := read("", hunk(1, 2, 1, 2, " x\n", "-a\n", "+b\n"))
	isRead(t, text, whole)
	isRead(t, strings.TrimSuffix(text, "\n"), whole)
}

// CX2: what the rows of both parts tell, put together.
func TestParseRows(t *testing.T) {
	for _, c := range []struct {
		text string
		want api.Hunk
	}{
		// both parts with rows
		{parts("1,2", "  x\n! y\n", "1,2", "  x\n! z\n"), hunk(1, 2, 1, 2, " x\n", "-y\n", "+z\n")},
		{parts("1,3", "! y\n! w\n  x\n", "1,2", "! z\n  x\n"), hunk(1, 3, 1, 2, "-y\n", "-w\n", "+z\n", " x\n")},
		{parts("1,4", "! 1\n  2\n- 3\n  4\n", "5,8", "! 5\n! 6\n  2\n  4\n"), hunk(1, 4, 5, 4, "-1\n", "+5\n", "+6\n", " 2\n", "-3\n", " 4\n")},
		{parts("1,2", "  x\n- y\n", "1", "  x\n"), hunk(1, 2, 1, 1, " x\n", "-y\n")},
		{parts("1", "  x\n", "1,2", "  x\n+ y\n"), hunk(1, 1, 1, 2, " x\n", "+y\n")},
		{parts("1,5", "- 1\n  2\n  4\n! 5\n  7\n", "1,5", "  2\n+ 3\n  4\n! 6\n  7\n"), hunk(1, 5, 1, 5, "-1\n", " 2\n", "+3\n", " 4\n", "-5\n", "+6\n", " 7\n")},
		{parts("1,2", "  x\n  x\n", "1,3", "  x\n+ x\n  x\n"), hunk(1, 2, 1, 3, " x\n", "+x\n", " x\n")},
		// one part without rows
		{parts("1", "- a\n", "0", ""), hunk(1, 1, 0, 0, "-a\n")},
		{parts("0", "", "1", "+ a\n"), hunk(0, 0, 1, 1, "+a\n")},
		{parts("1,3", "  x\n- a\n  y\n", "1,2", ""), hunk(1, 3, 1, 2, " x\n", "-a\n", " y\n")},
		{parts("1,2", "", "1,3", "  x\n+ a\n  y\n"), hunk(1, 2, 1, 3, " x\n", "+a\n", " y\n")},
		{parts("1,2", "  x\n- a\n", "1", ""), hunk(1, 2, 1, 1, " x\n", "-a\n")},
		{parts("1", "", "1,2", "  x\n+ a\n"), hunk(1, 1, 1, 2, " x\n", "+a\n")},
		{parts("1,5", "- a\n  x\n- b\n- c\n  y\n", "1,2", ""), hunk(1, 5, 1, 2, "-a\n", " x\n", "-b\n", "-c\n", " y\n")},
		// lines that look like others
		{parts("1", "! *** 1 ****\n", "1", "! --- 1 ----\n"), hunk(1, 1, 1, 1, "-*** 1 ****\n", "+--- 1 ----\n")},
		{parts("1,2", "  \\\n! \\ x\n", "1,2", "  \\\n! "+fifteen+"\n"), hunk(1, 2, 1, 2, " \\\n", "-\\ x\n", "+"+fifteen+"\n")},
		{parts("1,2", "- \n-  \n", "0", ""), hunk(1, 2, 0, 0, "-\n", "- \n")},
		{parts("1,2", "   \n! \x00\t\r\n", "1,2", "   \n! \xff \n"), hunk(1, 2, 1, 2, "  \n", "-\x00\t\r\n", "+\xff \n")},
		{parts("1", "- -- 1 ----\n", "0", ""), hunk(1, 1, 0, 0, "--- 1 ----\n")},
		// a last line without an end
		{parts("1", "! a\n", "1", "! b"), hunk(1, 1, 1, 1, "-a\n", "+b\n")},
		{parts("1", "! a\n", "1", "! "), hunk(1, 1, 1, 1, "-a\n", "+\n")},
		{parts("1", "", "1,2", "+ b\n  c"), hunk(1, 1, 1, 2, "+b\n", " c\n")},
		{strings.TrimSuffix(parts("1", "- a\n", "0", ""), "\n"), hunk(1, 1, 0, 0, "-a\n")},
		{parts("1", "! a\n", "1", "! b\n\\"), hunk(1, 1, 1, 1, "-a\n", "+b")},
		{parts("1", "! a\n", "1", "! b\n\\ x"), hunk(1, 1, 1, 1, "-a\n", "+b")},
	} {
		isRead(t, header+c.text, read("", c.want))
	}
}

// CX2: lines that begin with '\', at each place where one takes an end.
func TestParseEnds(t *testing.T) {
	for _, cut := range []string{noEnd, "\\\n", "\\ whatever it says\n", "\\\\\\\n", "\\! b\n"} {
		for _, c := range []struct {
			text string
			want api.Hunk
		}{
			{parts("1", "! a\n"+cut, "1", "! b\n"), hunk(1, 1, 1, 1, "-a", "+b\n")},
			{parts("1", "! a\n", "1", "! b\n"+cut), hunk(1, 1, 1, 1, "-a\n", "+b")},
			{parts("1", "! a\n"+cut, "1", "! b\n"+cut), hunk(1, 1, 1, 1, "-a", "+b")},
			{parts("1", "- a\n"+cut, "0", ""), hunk(1, 1, 0, 0, "-a")},
			{parts("0", "", "1", "+ a\n"+cut), hunk(0, 0, 1, 1, "+a")},
			{parts("1,2", "- a\n  b\n"+cut, "1", ""), hunk(1, 2, 1, 1, "-a\n", " b")},
			{parts("1,2", "- a\n  b\n"+cut, "1", "  b\n"+cut), hunk(1, 2, 1, 1, "-a\n", " b")},
			{parts("1", "", "1,2", "+ a\n  b\n"+cut), hunk(1, 1, 1, 2, "+a\n", " b")},
			{parts("1", "  b\n"+cut, "1,2", "+ a\n  b\n"+cut), hunk(1, 1, 1, 2, "+a\n", " b")},
			{parts("1,2", "! a\n  b\n"+cut, "1,2", "! c\n  b\n"+cut), hunk(1, 2, 1, 2, "-a\n", "+c\n", " b")},
			{parts("1", "- a\n"+cut, "0", ""), hunk(1, 1, 0, 0, "-a")},
		} {
			isRead(t, header+c.text, read("", c.want))
			isRead(t, header+strings.TrimSuffix(c.text, "\n"), read("", c.want))
			// A second one in the new part, or one behind no row of it, ends the hunk, and is left.
			if strings.HasSuffix(c.text, cut) || strings.HasSuffix(c.text, " ----\n") {
				isRead(t, header+c.text+cut, read(cut, c.want))
				isRead(t, header+c.text+cut+cut+small, read(cut+cut+small, c.want))
			}
		}
	}
}

// CX2: lines that begin with '\', where they take no end, or one that may not be taken; the line of each fault.
func TestParseEndErrors(t *testing.T) {
	const cut = "\\ x\n"
	for _, c := range []struct {
		text string
		line int // from the hunk's first line on, that is 1
	}{
		// behind no row of the old part
		{fifteen + "\n" + cut + "*** 1 ****\n! a\n--- 1 ----\n! b\n", 2},
		{parts("1", cut+"! a\n", "1", "! b\n"), 3},
		{parts("0", cut, "1", "+ b\n"), 3},
		{parts("1", "! a\n"+cut+cut, "1", "! b\n"), 5},
		{parts("1,2", "! a\n"+cut+cut+"! b\n", "1", "! b\n"), 5},
		{parts("1,2", "  x\n"+cut+cut+cut, "1", "! b\n"), 5},
		// behind no row of the new part: the rows behind it are none of the hunk's, and a change is there in the old part alone
		{parts("1", "! a\n", "1", cut+"! b\n"), 1},
		{parts("1", "! a\n", "1", cut), 1},
		{parts("1", "", "1", cut+"+ b\n"), 1},
		// an end that the other part's line has
		{parts("1,2", "- a\n  b\n"+cut, "1", "  b\n"), 1},
		{parts("1,2", "- a\n  b\n", "1", "  b\n"+cut), 1},
		{parts("1,2", "! a\n  b\n"+cut, "1,2", "! c\n  b\n"), 1},
		// an end that is not the last one of its side
		{parts("1,2", "- a\n"+cut+"- b\n", "0", ""), 1},
		{parts("0", "", "1,2", "+ a\n"+cut+"+ b\n"), 1},
		{parts("1,2", "- a\n"+cut+"  b\n", "1", ""), 1},
		{parts("1,2", "  a\n"+cut+"- b\n", "1", ""), 1},
		{parts("1", "", "1,2", "  a\n"+cut+"+ b\n"), 1},
		{parts("1,2", "! a\n"+cut+"! b\n", "1", "! c\n"), 1},
		// an end of a line that is nothing else
		{parts("1", "- \n"+cut, "0", ""), 1},
		{parts("0", "", "1", "+ \n"+cut), 1},
		{parts("1,2", "- a\n  \n"+cut, "1", ""), 1},
	} {
		isRead(t, header+c.text, wrong(2+c.line, api.ErrHunk))
		isRead(t, header+parts("0", "", "1", "+ x\n")+c.text, wrong(6+c.line, api.ErrHunk))
	}
	// A second one in the new part ends it, ahead of the rows that the range says; and counts come ahead of what may not be.
	isRead(t, header+parts("1", "! a\n", "1,2", "! b\n"+cut+cut+"! c\n"), wrong(3, api.ErrCount))
	isRead(t, header+parts("1,2", "- \n"+cut, "0", ""), wrong(3, api.ErrCount))
}

// CX2: rows marked with a blank that are not as many, or not the same, in both parts.
func TestParseBlankRows(t *testing.T) {
	for _, c := range [][2]string{
		{"! a\n  x\n", "! b\n"},
		{"! a\n", "! b\n  x\n"},
		{"  x\n! a\n", "! b\n"},
		{"! a\n", "  x\n! b\n"},
		{"! a\n  x\n  y\n", "! b\n  x\n"},
		{"! a\n  x\n", "! b\n  x\n  y\n"},
		{"  x\n  y\n! a\n", "  y\n! b\n"},
		{"! a\n  x\n", "! b\n  y\n"},
		{"! a\n  x\n", "! b\n  x \n"},
		{"! a\n  x\n", "! b\n   x\n"},
		{"! a\n  x\n", "! b\n  X\n"},
		{"! a\n  \n", "! b\n   \n"},
		{"! a\n  x\n  y\n", "! b\n  y\n  x\n"},
		{"  x\n- a\n  y\n", "  x\n  z\n"},
		{"  x\n  y\n", "  x\n+ a\n  z\n"},
		{"- a\n  x\n", "  y\n"},
		{"  x\n", "+ a\n  y\n"},
		{"- a\n", "  y\n"},
		{"  x\n", "+ a\n"},
		{"  x\n", "  y\n"},
		{"  x\n", "  x\n  y\n"},
		{"  x\n  y\n", "  x\n"},
	} {
		n, m := strings.Count(c[0], "\n"), strings.Count(c[1], "\n")
		isRead(t, header+parts(fmt.Sprintf("1,%d", n), c[0], fmt.Sprintf("1,%d", m), c[1]), wrong(3, api.ErrHunk))
		isRead(t, header+parts("1,99", c[0], "1,99", c[1]), wrong(3, api.ErrHunk))
	}
}

// CX2: each pair of runs that belong together, between rows marked with a blank, ahead of the first one and behind the last one.
func TestParsePairsOfRuns(t *testing.T) {
	const context = "  x\n"
	fine := 0
	for _, gone := range smallTexts([]string{"- a\n", "! b\n"}, 3) {
		for _, come := range smallTexts([]string{"+ c\n", "! d\n"}, 3) {
			n, m := strings.Count(gone, "\n"), strings.Count(come, "\n")
			belong := n+m == 0 ||
				m == 0 && !strings.Contains(gone, "!") ||
				n == 0 && !strings.Contains(come, "!") ||
				n > 0 && m > 0 && !strings.Contains(gone, "-") && !strings.Contains(come, "+")
			for _, around := range [][2]string{{"", context}, {context, ""}, {context, context}, {context + context, context}} {
				more := strings.Count(around[0]+around[1], "\n")
				text := parts(fmt.Sprintf("1,%d", n+more), around[0]+gone+around[1], fmt.Sprintf("1,%d", m+more), around[0]+come+around[1])
				// A change elsewhere, so that none is wanting here.
				fixed := parts(fmt.Sprintf("1,%d", n+more+2), "  w\n- v\n"+around[0]+gone+around[1], fmt.Sprintf("1,%d", m+more+1), "  w\n"+around[0]+come+around[1])
				if around[0] == "" {
					fixed = parts(fmt.Sprintf("1,%d", n+more+1), gone+around[1]+"- v\n", fmt.Sprintf("1,%d", m+more), come+around[1])
				}
				if !belong {
					isRead(t, header+text, wrong(3, api.ErrHunk))
					isRead(t, header+fixed, wrong(3, api.ErrHunk))
					continue
				}
				fine++
				if got := parse(header + fixed); got.err != nil || got.l[0].N != n+more+1 && got.l[0].N != n+more+2 {
					t.Errorf("%q: %v", fixed, got)
				}
				if n+m > 0 {
					all := append(append(append(rows(" x\n", strings.Count(around[0], "\n")), told(gone, "-")...), told(come, "+")...), rows(" x\n", strings.Count(around[1], "\n"))...)
					isRead(t, header+text, read("", hunk(1, n+more, 1, m+more, all...)))
				} else {
					isRead(t, header+text, wrong(3, api.ErrHunk))
				}
			}
		}
	}
	if fine != 4*(1+3+3+9) {
		t.Error(fine, "pairs belong together")
	}
}

// told are the rows of a run, each with a mark of its kind in the place of the run's own.
func told(run, mark string) []string {
	var l []string
	for _, line := range lines.Split(run) {
		l = append(l, mark+line[2:])
	}
	return l
}

// CX2: runs with marks of the other part, which are no rows there.
func TestParseMarksOfTheOtherPart(t *testing.T) {
	isRead(t, header+parts("1", "+ a\n", "1", "! b\n"), wrong(5, api.ErrHunk))
	isRead(t, header+parts("1,2", "! a\n+ a\n", "1", "! b\n"), wrong(6, api.ErrHunk))
	// In the new part it ends the hunk.
	isRead(t, header+parts("1", "! a\n", "1", "- b\n"), wrong(3, api.ErrHunk))
	isRead(t, header+parts("1", "! a\n", "1,2", "! b\n- c\n"), wrong(3, api.ErrCount))
	isRead(t, header+parts("1", "! a\n", "1", "! b\n- c\n"), read("- c\n", smallHunk()))
	isRead(t, header+parts("1", "- a\n", "0", "- b\n"), read("- b\n", hunk(1, 1, 0, 0, "-a\n")))
}

// CX2: no row in either part.
func TestParseWithoutRows(t *testing.T) {
	for _, text := range []string{parts("1", "", "1", ""), parts("0", "", "0", ""), parts("1,2", "", "1,2", ""), parts("0", "", "0", "\\\n"), parts("0", "", "0", "- a\n"), parts("0", "", "0", "x\n"), parts("0", "", "0", small), strings.TrimSuffix(parts("0", "", "0", ""), "\n")} {
		isRead(t, header+text, wrong(3, api.ErrHunk))
		isRead(t, header+small+text, wrong(8, api.ErrHunk))
	}
}

// CX2: counts that are not what a range says: too few rows and too many, in each part.
func TestParseCountErrors(t *testing.T) {
	for _, c := range []string{
		// the old part
		parts("1,2", "! a\n", "1", "! b\n"),
		parts("1,3", "! a\n! c\n", "1", "! b\n"),
		parts("1", "! a\n! c\n", "1", "! b\n"),
		parts("1,1", "! a\n! c\n", "1", "! b\n"),
		parts("1,2", "! a\n! c\n! d\n", "1", "! b\n"),
		parts("1,3", "- a\n", "0", ""),
		parts("1", "- a\n- b\n", "0", ""),
		parts("0", "- a\n- b\n", "0", ""),
		parts("1,2147483647", "- a\n", "0", ""),
		parts("0,2147483647", "- a\n", "0", ""),
		// the new part
		parts("1", "! a\n", "1,2", "! b\n"),
		parts("1", "! a\n", "1,3", "! b\n! c\n"),
		parts("0", "", "1,3", "+ a\n"),
		parts("0", "", "1,2147483647", "+ a\n"),
		parts("1", "! a\n", "1,3", "! b\n! c\nx\n"),
		parts("1", "! a\n", "1,3", "! b\n! c\n"+small),
		// a part that counts as the other one's rows marked with a blank
		parts("1,2", "  x\n", "1", ""),
		parts("1,2", "  x\n- a\n", "1,2", ""),
		parts("1,3", "  x\n- a\n  y\n", "1", ""),
		parts("1,3", "  x\n- a\n  y\n", "1,3", ""),
		parts("1,2", "", "1,2", "  x\n+ a\n"),
		parts("1", "", "1,3", "  x\n+ a\n  y\n"),
		parts("1,3", "", "1,3", "  x\n+ a\n  y\n"),
		// none, where two numbers tell one line
		parts("1,1", "", "1", "+ a\n"),
		parts("0,0", "", "1", "+ a\n"),
		parts("1", "- a\n", "1,1", ""),
		parts("1", "- a\n", "0,0", ""),
		parts("1,2", "", "1", "+ a\n"),
		parts("1", "- a\n", "1,2", ""),
	} {
		isRead(t, header+c, wrong(3, api.ErrCount))
		isRead(t, header+parts("0", "", "1", "+ x\n")+c, wrong(7, api.ErrCount))
	}
}

// CX2: a new part has no more rows than its range says: what is behind them is left.
func TestParseRowsBeyond(t *testing.T) {
	for _, beyond := range []string{"! c\n", "  c\n", "+ c\n", "- c\n", "! c\n! d\n", "  c"} {
		isRead(t, header+parts("1", "! a\n", "1", "! b\n"+beyond), read(beyond, smallHunk()))
		isRead(t, header+parts("1", "! a\n", "1,1", "! b\n"+beyond), read(beyond, smallHunk()))
		isRead(t, header+parts("1", "! a\n", "1,2", "! b\n! b\n"+beyond), read(beyond, hunk(1, 1, 1, 2, "-a\n", "+b\n", "+b\n")))
		isRead(t, header+parts("1", "! a\n", "1", "! b\n"+noEnd+beyond), read(beyond, hunk(1, 1, 1, 1, "-a\n", "+b")))
		isRead(t, header+parts("0", "", "1", "+ b\n"+beyond), read(beyond, hunk(0, 0, 1, 1, "+b\n")))
	}
	// A 0 alone says one line, too, and so what is behind is taken for a row.
	isRead(t, header+parts("1", "- a\n", "0", "  x\n"), wrong(3, api.ErrHunk))
	isRead(t, header+parts("1,2", "- a\n  x\n", "1", "  x\n  y\n"), read("  y\n", hunk(1, 2, 1, 1, "-a\n", " x\n")))
	isRead(t, header+parts("1,2", "- a\n  x\n", "0", "  x\n"), wrong(3, api.ErrHunk))
	// One that is cut off there no longer belongs to the old part.
	isRead(t, header+parts("1,2", "! a\n  x\n", "1", "! b\n  x\n"), wrong(3, api.ErrHunk))
}

// CX2: what is left behind the last hunk.
func TestParseLeft(t *testing.T) {
	second := hunk(2, 1, 2, 1, "-c\n", "+d")
	for _, left := range []string{"", "\n", "x", "x\n", "\n\n", "*** a\n", header + small, "--- a\n+++ b\n@@ -1 +1 @@\n", "*** 1 ****\n", "--- 1 ----\n", "****************\n", "**************\n", "! c\n", "  c\n", "- c\n", "x\n" + small, "x\n\\\n", "diff a b", "\x00", "\r\n"} {
		isRead(t, header+small+left, read(left, smallHunk()))
		isRead(t, header+small+noEnd+left, read(left, hunk(1, 1, 1, 1, "-a\n", "+b")))
		isRead(t, header+small+parts("2", "! c\n", "2", "! d\n"+noEnd)+left, read(left, smallHunk(), second))
	}
	// A new part without rows takes those that are behind it for its own, but not others.
	for _, left := range []string{"", "\n", "x", "- c\n", "*** a\n", " c\n", "!c\n", "+\n", "\\\n"} {
		isRead(t, header+parts("1", "- a\n", "0", left), read(left, hunk(1, 1, 0, 0, "-a\n")))
	}
}

// CX2: hunks that may not be, and the line of each.
func TestParseHunkErrors(t *testing.T) {
	for _, text := range []string{
		parts("1", "  a\n", "1", "  a\n"),
		parts("1", "  a\n", "1", ""),
		parts("1", "", "1", "  a\n"),
		parts("1,2", "  a\n  b\n", "1,2", ""),
		parts("0", "! a\n", "1", "! b\n"),
		parts("1", "! a\n", "0", "! b\n"),
		parts("0,0", "! a\n", "1", "! b\n"),
		parts("0,1", "! a\n! c\n", "1", "! b\n"),
		parts("0", "- a\n", "0", ""),
		parts("0", "", "0", "+ a\n"),
		parts("0", "", "1,2", "  x\n+ a\n"),
		parts("2147483647", "! a\n", "1", "! b\n"),
		parts("1", "! a\n", "2147483647", "! b\n"),
		parts("2147483647,2147483647", "! a\n", "1", "! b\n"),
		parts("2147483646,2147483647", "! a\n! c\n", "1", "! b\n"),
		parts("1", "! a\n", "2147483646,2147483647", "! b\n! c\n"),
		strings.Replace(small, fifteen, fifteen+" "+strings.Repeat("x", api.MaxPath+1), 1),
	} {
		isRead(t, header+text, wrong(3, api.ErrHunk))
		// What stands behind such a hunk says nothing.
		for _, behind := range []string{"x\n", "\\\n\\\n", fifteen + "\nx\n", small} {
			isRead(t, header+text+behind, wrong(3, api.ErrHunk))
		}
		isRead(t, header+parts("0", "", "1", "+ x\n")+text, wrong(7, api.ErrHunk))
	}
}

// CX2: hunks that are not in order, and the line of each.
func TestParseOrderErrors(t *testing.T) {
	first := parts("2,3", "", "4,6", "  a\n+ b\n  c\n") // the old lines 2 and 3, the new ones 4 to 6
	for _, c := range []struct {
		text    string
		inOrder bool
	}{
		{parts("4", "! a\n", "7", "! b\n"), true},
		{parts("3", "! a\n", "7", "! b\n"), false},
		{parts("4", "! a\n", "6", "! b\n"), false},
		{parts("1", "! a\n", "9", "! b\n"), false},
		{parts("9", "! a\n", "1", "! b\n"), false},
		{parts("3", "", "7", "+ b\n"), true},
		{parts("2", "", "7", "+ b\n"), false},
		{parts("3", "", "6", "+ b\n"), false},
		{parts("4", "- a\n", "6", ""), true},
		{parts("4", "- a\n", "5", ""), false},
		{parts("3", "- a\n", "6", ""), false},
		{first, false},
	} {
		got := parse(header + first + c.text)
		if c.inOrder {
			if got.err != nil || len(got.l) != 2 {
				t.Errorf("%q: %v", c.text, got)
			}
			isRead(t, header+first+c.text+first, wrong(9+strings.Count(c.text, "\n"), api.ErrOrder))
		} else if !got.same(wrong(9, api.ErrOrder)) {
			t.Errorf("%q: %v", c.text, got)
		}
	}
}

// CX2: which error comes where several apply to one hunk, that is out of order, too: its first line is the eighth.
func TestParseErrorsOfOneHunk(t *testing.T) {
	ahead := header + parts("5", "! a\n", "5", "! b\n")
	long := fifteen + " " + strings.Repeat("x", api.MaxPath+1) + "\n"
	for _, c := range []struct {
		name, text string
		want       answer
	}{
		{"out of order alone", parts("5", "! a\n", "5", "! b\n"), wrong(8, api.ErrOrder)},
		{"and its end taken", parts("5", "! a\n", "5", "! b\n\\\n"), wrong(8, api.ErrOrder)},
		{"and one may not be", parts("5", "  a\n", "5", "  a\n"), wrong(8, api.ErrHunk)},
		{"and one may not be, by an end", parts("5", "! a\n", "5", "! \n\\\n"), wrong(8, api.ErrHunk)},
		{"and one may not be, by its head", long + "*** 5 ****\n! a\n--- 5 ----\n! b\n", wrong(8, api.ErrHunk)},
		{"and its head, and too few rows", long + "*** 5,6 ****\n! a\n--- 5 ----\n! b\n", wrong(8, api.ErrCount)},
		{"and its head, and the first range", long + "*** 5 ***\n! a\n--- 5 ----\n! b\n", wrong(9, api.ErrHunk)},
		{"and too few rows", parts("5,6", "! a\n", "5", "! b\n"), wrong(8, api.ErrCount)},
		{"and too many rows", parts("5", "! a\n! a\n", "5", "! b\n"), wrong(8, api.ErrCount)},
		{"and counts, and one may not be", parts("5,6", "  a\n", "5", "  a\n"), wrong(8, api.ErrCount)},
		{"and counts, and runs", parts("5,6", "! a\n", "5", "+ b\n"), wrong(8, api.ErrHunk)},
		{"and counts, and blanks", parts("5,6", "- a\n", "5", "  b\n"), wrong(8, api.ErrHunk)},
		{"and counts, and no rows", parts("5,6", "", "5,6", ""), wrong(8, api.ErrHunk)},
		{"and runs, and the second range", parts("5,6", "! a\n- b\n", "5,4", "! b\n"), wrong(12, api.ErrHunk)},
		{"and counts, and the second range", parts("5,6", "! a\n", "5,4", "! b\n"), wrong(11, api.ErrHunk)},
		{"and the first range, and the second", parts("5,4", "! a\n", "5,4", "! b\n"), wrong(9, api.ErrHunk)},
		{"and another line in the old part", parts("5,6", "! a\nx\n", "5,4", "! b\n"), wrong(11, api.ErrHunk)},
		{"out of order, ahead of a range that can't be", parts("5", "! a\n", "5", "! b\n") + fifteen + "\nx\n", wrong(8, api.ErrOrder)},
		{"out of order, ahead of too few rows", parts("5", "! a\n", "5", "! b\n") + parts("9,10", "! a\n", "9", "! b\n"), wrong(8, api.ErrOrder)},
		{"counts, ahead of a range that can't be", parts("9,10", "! a\n", "9", "! b\n") + fifteen + "\nx\n", wrong(8, api.ErrCount)},
		{"may not be, ahead of one out of order", parts("9", "  a\n", "9", "") + small, wrong(8, api.ErrHunk)},
	} {
		if got := parse(ahead + c.text); !got.same(c.want) {
			t.Errorf("%s: %v, not %v", c.name, got, c.want)
		}
	}
}

// long is a diff of some bytes in all, of one row that is as long as it must be.
func long(size int) (string, api.Hunk) {
	ahead, behind := header+fifteen+"\n*** 1 ****\n! ", "\n--- 1 ----\n! b\n"
	line := strings.Repeat("x", size-len(ahead)-len(behind))
	return ahead + line + behind, hunk(1, 1, 1, 1, "-"+line+"\n", "+b\n")
}

// CX2: texts of MaxBytes bytes, and of one more.
func TestParseLong(t *testing.T) {
	const most = api.MaxBytes
	text, h := long(most)
	if got := parse(text); !got.same(read("", h)) {
		t.Error("a text at the limit:", got.line, got.err)
	}
	if got := parse(text + "\n"); !got.same(wrong(0, api.ErrLong)) {
		t.Error("a text beyond the limit:", got.line, got.err)
	}
	left := strings.Repeat("\n", most-len(header+small))
	if got := parse(header + small + left); !got.same(read(left, smallHunk())) {
		t.Error("a text with much left:", got.line, got.err)
	}
	begun := header + fifteen + "\n"
	const rows = (most - 100) / 3
	for _, c := range []struct {
		text string
		line int
		err  error
	}{
		{strings.Repeat("\n", most), 1, api.ErrHead},
		{strings.Repeat("\n", most+1), 0, api.ErrLong},
		{strings.Repeat("*", most+1), 0, api.ErrLong},
		{"*** " + strings.Repeat("x", most-4), 2, api.ErrHead},
		{"*** \"" + strings.Repeat("x", most-5), 1, api.ErrHead},
		{header + strings.Repeat("*", most-len(header)), 3, api.ErrHunk},
		{begun + strings.Repeat("\\", most-len(begun)), 4, api.ErrHunk},
		{begun + "*** " + strings.Repeat("0", most-len(begun)-4), 4, api.ErrHunk},
		{begun + "*** " + strings.Repeat("9", most-len(begun)-9) + " ****", 4, api.ErrHunk},
		{begun + "*** " + strings.Repeat("0", most-len(begun)-9) + " ****", 5, api.ErrHunk},
		{begun + "*** 1 ****\n" + strings.Repeat("  \n", rows), 5 + rows, api.ErrHunk},
		{begun + "*** 1 ****\n" + strings.Repeat("  \n", rows) + "--- 1 ----\n", 3, api.ErrCount},
		{begun + "*** 1 ****\n--- 1,2147483647 ----\n" + strings.Repeat("+ \n", rows), 3, api.ErrCount},
	} {
		if got := parse(c.text); !got.same(wrong(c.line, c.err)) {
			t.Errorf("%.60q: %d %v", c.text, got.line, got.err)
		}
	}
}

// P1, CX2: as many rows, runs and hunks as a text may have, end soon; and what is left is not gone through.
func TestParseEndsSoon(t *testing.T) {
	soon(t, "many rows of one part", func() {
		const n = api.MaxBytes/3 - 50
		got := parse(header + parts(fmt.Sprintf("1,%d", n), strings.Repeat("- \n", n), "0", ""))
		if got.err != nil || len(got.l) != 1 || len(got.l[0].Rows) != n {
			t.Error("many rows:", got.line, got.err)
		}
	})
	soon(t, "many runs", func() {
		const n = api.MaxBytes/12 - 50
		got := parse(header + parts(fmt.Sprintf("1,%d", 2*n), strings.Repeat("! \n  \n", n), fmt.Sprintf("1,%d", 2*n), strings.Repeat("! \n  \n", n)))
		if got.err != nil || len(got.l) != 1 || len(got.l[0].Rows) != 3*n {
			t.Error("many runs:", got.line, got.err)
		}
	})
	soon(t, "many hunks", func() {
		var b strings.Builder
		b.WriteString(header)
		n := 0
		for ; b.Len() < api.MaxBytes-80; n++ {
			b.WriteString(parts("0", "", fmt.Sprint(n+1), "+ \n"))
		}
		got := parse(b.String())
		if got.err != nil || len(got.l) != n {
			t.Error("many hunks:", len(got.l), got.line, got.err)
		}
		again, err := Print(got.old, got.fresh, got.l)
		isErr(t, "many hunks", err, nil)
		if again != b.String() {
			t.Error("many hunks are printed otherwise")
		}
	})
	soon(t, "many texts with much left", func() {
		text := header + small + strings.Repeat("x\n", (api.MaxBytes-len(header+small))/2)
		for range 200000 {
			if _, _, _, _, _, err := Parse(text); err != nil {
				t.Error(err)
			}
		}
	})
}
