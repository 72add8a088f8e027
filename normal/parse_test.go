package normal

import (
	"fmt"
	"selvage/api"
	"strings"
	"testing"
)

// small is a change's text, and smallHunk what it tells.
const small = "1c1\n< a\n---\n> b\n"

func smallHunk() api.Hunk {
	return hunk(1, 1, 1, 1, "-a\n", "+b\n")
}

// N2, N4: the empty text, and texts that are no diff.
func TestParseNothing(t *testing.T) {
	for _, text := range []string{"", "\n", "x", "x\n", " 1d0\n< a\n", "-1d0\n< a\n", "+1d0\n< a\n", "a1\n", ",1d0\n< a\n", "< a\n", "> a\n", "---\n", "d1\n", "\x00", "\xd9\xa1d0\n", "/1d0\n", ":1d0\n", "\n1d0\n< a\n", "x\n\\\n", "diff\n" + small} {
		isRead(t, text, read(text))
	}
}

// rowsOf are the texts of so many old lines and so many new ones, behind a command, and the rows that they tell.
func rowsOf(n, m int) (string, []api.Row) {
	var text string
	var rows []api.Row
	for i := range n {
		text += fmt.Sprintf("< a%d\n", i)
		rows = append(rows, row(fmt.Sprintf("-a%d\n", i)))
	}
	if n > 0 && m > 0 {
		text += "---\n"
	}
	for i := range m {
		text += fmt.Sprintf("> b%d\n", i)
		rows = append(rows, row(fmt.Sprintf("+b%d\n", i)))
	}
	return text, rows
}

// N2: commands in forms that can be.
func TestParseCommands(t *testing.T) {
	const most = api.MaxNumber
	nought := strings.Repeat("0", 50)
	for _, c := range []struct {
		command string
		want    api.Hunk
	}{
		{"1c1", hunk(1, 1, 1, 1)},
		{"1,2c1", hunk(1, 2, 1, 1)},
		{"1c1,2", hunk(1, 1, 1, 2)},
		{"3,5c70,73", hunk(3, 3, 70, 4)},
		{"1d0", hunk(1, 1, 0, 0)},
		{"1d1", hunk(1, 1, 1, 0)},
		{"2,4d1", hunk(2, 3, 1, 0)},
		{"9d77", hunk(9, 1, 77, 0)},
		{"0a1", hunk(0, 0, 1, 1)},
		{"1a1", hunk(1, 0, 1, 1)},
		{"1a2,4", hunk(1, 0, 2, 3)},
		{"77a9", hunk(77, 0, 9, 1)},
		// equal ends
		{"1,1c1", hunk(1, 1, 1, 1)},
		{"1c1,1", hunk(1, 1, 1, 1)},
		{"7,7c8,8", hunk(7, 1, 8, 1)},
		{"7,7d0", hunk(7, 1, 0, 0)},
		{"0a7,7", hunk(0, 0, 7, 1)},
		// noughts ahead
		{"01c001", hunk(1, 1, 1, 1)},
		{"01,02c0003,00000004", hunk(1, 2, 3, 2)},
		{"010,10c1,01", hunk(10, 1, 1, 1)},
		{"00a01", hunk(0, 0, 1, 1)},
		{"01d00", hunk(1, 1, 0, 0)},
		{nought + "1," + nought + "2c" + nought + "9", hunk(1, 2, 9, 1)},
		{nought + "a" + nought + "1", hunk(0, 0, 1, 1)},
		{"1d" + nought, hunk(1, 1, 0, 0)},
		// the greatest numbers
		{"2147483647a1", hunk(most, 0, 1, 1)},
		{"1d2147483647", hunk(1, 1, most, 0)},
		{"2147483646d0", hunk(most-1, 1, 0, 0)},
		{"0a2147483646", hunk(0, 0, most-1, 1)},
		{"2147483645,2147483646c2147483646,2147483646", hunk(most-2, 2, most-1, 1)},
		{"2147483647a2147483645,2147483646", hunk(most, 0, most-2, 2)},
		{"002147483646d002147483647", hunk(most-1, 1, most, 0)},
	} {
		text, rows := rowsOf(c.want.N, c.want.M)
		c.want.Rows = rows
		isRead(t, c.command+"\n"+text, read("", c.want))
		isRead(t, c.command+"\n"+text+"x", read("x", c.want))
		isRead(t, strings.TrimSuffix(c.command+"\n"+text, "\n"), read("", c.want))
	}
}

// badCommands are commands that can't be.
func badCommands() []string {
	bad := []string{
		// no letter, nothing ahead of it, nothing behind it
		"1", "0", "12", "1,2", "1,", "1 ", "1\r", "1\n2d0", "1c", "1d", "0a", "1,2c", "1,2d", "1c,", "1c1,", "1c,1", "1,c1", "1,d0", "0a,", "0a,1", "0a1,", "1a,1", "1,,2c1", "1c1,,2",
		// another letter
		"1b1", "1e1", "1i1", "1C1", "1D0", "0A1", "1x1", "1-1", "1+1", "1\\1", "1<1", "1 1", "1s/.//", "1\x001", "1\xff1",
		// something around the letter, or behind
		"1 c1", "1c 1", "1, 2c1", "1 ,2c1", "1c1 ", "1c1 2", "1c1\t", "1c1\r", "1c1x", "1c1c1", "1cc1", "1cd1", "1ac1", "1d0d", "1d0,", "1d0 ", "0a1a", "0a1 ", "0a1\\", "1d0\x00", "1d0<", "1x2d3", "1d3x", "1c1---",
		// more than two numbers
		"1,2,3c1", "1c1,2,3", "1,2,3d0", "0a1,2,3",
		// a range where one number must stand
		"0,0a1", "0,1a1", "1,1a1", "1,2a3", "1,2a3,4", "1d0,0", "1d1,1", "1d0,1", "1,2d3,4",
		// an end below the beginning
		"2,1c1", "1c2,1", "2,1d0", "0a2,1", "10,9c1", "1c10,09", "1,0c1", "1c1,0", "1,0d0", "0a1,0", "2147483647,1d0",
		// the number 0 where a line stands
		"0c1", "1c0", "0c0", "0,1c1", "1c0,1", "0,0c1", "1c0,0", "0d0", "0d1", "00d0", "0,1d0", "0,0d0", "0a0", "1a0", "0a00", "0a0,1", "0a0,0",
		// no digits
		"1c-1", "1c+1", "1,-2c1", "1,+2c1", "1d-0", "1d+0", "0a+1", "0a-1", "0x1c1", "1_0c1", "1c0x1", "1c1_0", "1.0c1", "1e1c1", "1c1e1", "1\xd9\xa1c1", "1c\xd9\xa1",
	}
	// numbers that are too great
	for _, number := range []string{"2147483648", "4294967296", "4294967297", "9223372036854775807", "9223372036854775808", "18446744073709551615", "18446744073709551616", "18446744073709551617", "99999999999999999999999999", "00000000000000000000002147483648"} {
		bad = append(bad, number+"c1", "1c"+number, number+"d0", "1d"+number, number+"a1", "0a"+number, "1,"+number+"c1", "1c1,"+number, "1,"+number+"d0", "0a1,"+number, number+","+number+"d0")
	}
	return bad
}

// N2: commands that can't be, as the first one and behind others; what is behind them, or wrong with it, says nothing.
func TestParseCommandErrors(t *testing.T) {
	for _, command := range badCommands() {
		for _, behind := range []string{"", "\n", "\n< a\n", "\n> a\n", "\n< a\n---\n> b\n", "\nx\n", "\n\\\n", "\n" + small} {
			isRead(t, command+behind, wrong(1, api.ErrLine))
			isRead(t, small+command+behind, wrong(5, api.ErrLine))
			isRead(t, "0a1\n> a\n"+noEnd+command+behind, wrong(4, api.ErrLine))
			isRead(t, "9d8\n< a\n"+command+behind, wrong(3, api.ErrLine))
		}
	}
}

// N2: lines that can be.
func TestParseRows(t *testing.T) {
	for _, c := range []struct {
		text string
		want api.Hunk
	}{
		{"1,2c1,2\n< a\n< b\n---\n> c\n> d\n", hunk(1, 2, 1, 2, "-a\n", "-b\n", "+c\n", "+d\n")},
		{"1c1\n< \n---\n> \n", hunk(1, 1, 1, 1, "-\n", "+\n")},
		{"1,2c1\n< ---\n< < \n---\n> > \n", hunk(1, 2, 1, 1, "----\n", "-< \n", "+> \n")},
		{"1,2d0\n< 1d0\n< \\ x\n", hunk(1, 2, 0, 0, "-1d0\n", "-\\ x\n")},
		{"1c1\n<  a\n---\n> \tb \n", hunk(1, 1, 1, 1, "- a\n", "+\tb \n")},
		{"1c1\n< \x00\r\n---\n> \xff\n", hunk(1, 1, 1, 1, "-\x00\r\n", "+\xff\n")},
		// a last line without an end
		{"1c1\n< a\n---\n> b", hunk(1, 1, 1, 1, "-a\n", "+b\n")},
		{"1d0\n< a", hunk(1, 1, 0, 0, "-a\n")},
		{"0a1\n> a", hunk(0, 0, 1, 1, "+a\n")},
		{"0a1\n> ", hunk(0, 0, 1, 1, "+\n")},
		{"1d0\n< ", hunk(1, 1, 0, 0, "-\n")},
		{"1d0\n< a\n\\", hunk(1, 1, 0, 0, "-a")},
		{"1d0\n< a\n\\ x", hunk(1, 1, 0, 0, "-a")},
		{"1c1\n< a\n---\n> b\n\\", hunk(1, 1, 1, 1, "-a\n", "+b")},
		// lines that take an end
		{"1c1\n< a\n\\\n---\n> b\n", hunk(1, 1, 1, 1, "-a", "+b\n")},
		{"1c1\n< a\n---\n> b\n\\\n", hunk(1, 1, 1, 1, "-a\n", "+b")},
		{"1c1\n< a\n" + noEnd + "---\n> b\n" + noEnd, hunk(1, 1, 1, 1, "-a", "+b")},
		{"1,2c1,2\n< a\n< b\n\\ whatever it says\n---\n> c\n> d\n\\\\\\\n", hunk(1, 2, 1, 2, "-a\n", "-b", "+c\n", "+d")},
		{"1d0\n< a\n\\1d0\n", hunk(1, 1, 0, 0, "-a")},
		{"0a1\n> a\n\\> b\n", hunk(0, 0, 1, 1, "+a")},
		{"0a1\n>  \n\\\n", hunk(0, 0, 1, 1, "+ ")},
		{"0a1\n> \\\n\\\n", hunk(0, 0, 1, 1, "+\\")},
	} {
		isRead(t, c.text, read("", c.want))
	}
}

// N2: lines that can't be, and the number of each, from the command on, that is 1.
func TestParseLineErrors(t *testing.T) {
	for _, c := range []struct {
		text string
		line int
	}{
		// the text's end within a change
		{"1d0", 2},
		{"1d0\n", 2},
		{"0a1", 2},
		{"0a1\n", 2},
		{"1c1", 2},
		{"1c1\n", 2},
		{"1,2d0\n< a", 3},
		{"1,2d0\n< a\n", 3},
		{"1,2d0\n< a\n\\\n", 4},
		{"1,2d0\n< a\n\\", 4},
		{"0a1,2\n> a\n", 3},
		{"0a1,2\n> a\n\\\n", 4},
		{"1c1\n< a", 3},
		{"1c1\n< a\n", 3},
		{"1c1\n< a\n\\\n", 4},
		{"1c1\n< a\n\\", 4},
		{"1c1\n< a\n---", 4},
		{"1c1\n< a\n---\n", 4},
		{"1c1,2\n< a\n---\n> b\n", 5},
		{"1c1,2\n< a\n---\n> b", 5},
		{"1c1,2\n< a\n---\n> b\n\\", 6},
		{"1,2147483647d0\n< a\n", 3},
		{"0a1,2147483647\n> a\n", 3},
		{"1,2147483646c1,2147483646\n< a\n---\n> b\n", 3},
		// too few lines of a side, or too many
		{"1,2d0\n< a\n1d0\n< a\n", 3},
		{"1,2d0\n< a\nx\n", 3},
		{"1,2c1\n< a\n---\n> b\n", 3},
		{"1c1,2\n< a\n---\n> b\n2d1\n", 5},
		{"1c1,2\n< a\n---\n> b\nx\n", 5},
		{"1c1\n< a\n< b\n---\n> c\n", 3},
		{"0a1,2\n> a\n2d1\n", 3},
		// the lines of the other side
		{"1d0\n> a\n", 2},
		{"0a1\n< a\n", 2},
		{"1c1\n> a\n---\n< b\n", 2},
		{"1c1\n---\n> b\n", 2},
		{"1c1\n< a\n---\n< b\n", 4},
		{"0a1\n---\n> a\n", 2},
		{"1d0\n---\n", 2},
		{"0a1,2\n> a\n---\n> b\n", 3},
		// lines that do not begin as they must
		{"1d0\n<\n", 2},
		{"1d0\n<", 2},
		{"1d0\n<a\n", 2},
		{"1d0\n<\ta\n", 2},
		{"1d0\n < a\n", 2},
		{"1d0\na\n", 2},
		{"1d0\n\n", 2},
		{"1d0\n\n< a\n", 2},
		{"1d0\n-a\n", 2},
		{"0a1\n>\n", 2},
		{"0a1\n>a\n", 2},
		{"0a1\n>\r\n", 2},
		{"0a1\n > a\n", 2},
		{"0a1\n+a\n", 2},
		{"1c1\n< a\n---\n>\n", 4},
		{"1c1\n< a\n---\n\n> b\n", 4},
		{"1c1\n< a\n---\n---\n> b\n", 4},
		// the line between both sides missing, cut short, or with something behind
		{"1c1\n< a\n> b\n", 3},
		{"1c1\n< a\n\\\n> b\n", 4},
		{"1c1\n< a\n\n> b\n", 3},
		{"1c1\n< a\n\n---\n> b\n", 3},
		{"1c1\n< a\n-\n> b\n", 3},
		{"1c1\n< a\n--\n> b\n", 3},
		{"1c1\n< a\n--", 3},
		{"1c1\n< a\n----\n> b\n", 3},
		{"1c1\n< a\n--- \n> b\n", 3},
		{"1c1\n< a\n--- b\n> b\n", 3},
		{"1c1\n< a\n---\r\n> b\n", 3},
		{"1c1\n< a\n---\x00\n> b\n", 3},
		{"1c1\n< a\n ---\n> b\n", 3},
		{"1c1\n< a\n***\n> b\n", 3},
		// lines that begin with '\' where they may not
		{"1d0\n\\\n< a\n", 2},
		{"1d0\n\\", 2},
		{"0a1\n\\\n> a\n", 2},
		{"1c1\n\\\n< a\n---\n> b\n", 2},
		{"1c1\n< a\n---\n\\\n> b\n", 4},
		{"1c1\n< a\n\\\n---\n\\\n> b\n", 5},
		// a second one
		{"1,2d0\n< a\n\\\n\\\n< b\n", 4},
		{"1c1\n< a\n\\\n\\\n---\n> b\n", 4},
		{"0a1,2\n> a\n\\\n\\\n> b\n", 4},
	} {
		isRead(t, c.text, wrong(c.line, api.ErrLine))
		// Behind another change it is the same, further down; also where it is out of order there.
		isRead(t, "0a1\n> x\n"+c.text, wrong(2+c.line, api.ErrLine))
		isRead(t, "9d8\n< x\n"+noEnd+c.text, wrong(3+c.line, api.ErrLine))
	}
}

// N2: a line that begins with '\' where a command may begin.
func TestParseCutsWhereACommandMayBegin(t *testing.T) {
	for _, cut := range []string{"\\", "\\\n", noEnd, "\\ x\n" + small, "\\1d0\n< a\n", "\\\n\\\n"} {
		isRead(t, cut, wrong(1, api.ErrLine))
		isRead(t, small+"\\\n"+cut, wrong(6, api.ErrLine))
		isRead(t, "1d0\n< a\n"+noEnd+cut, wrong(4, api.ErrLine))
		isRead(t, small+"3d2\n< a\n\\\n"+cut, wrong(8, api.ErrLine))
		// Behind the end of the diff it is left.
		isRead(t, "x\n"+cut, read("x\n"+cut))
		isRead(t, small+"\n"+cut, read("\n"+cut, smallHunk()))
	}
}

// N2: what is left behind the last change.
func TestParseLeft(t *testing.T) {
	second := hunk(2, 1, 1, 0, "-c")
	for _, left := range []string{"", "\n", "x", "x\n", "\n\n", "< c\n", "> c\n", "---\n", "--- c\n+++ d\n", " 2d1\n< a\n", "x\n2d1\n", "-- \n2.30\n", "x\n\\\n", "\n\\\n", " \\", "diff a b", "\x00", "a", "d0\n", ",2d1\n", "x\n" + small} {
		isRead(t, small+left, read(left, smallHunk()))
		isRead(t, small+noEnd+left, read(left, hunk(1, 1, 1, 1, "-a\n", "+b")))
		isRead(t, small+"2d1\n< c\n"+noEnd+left, read(left, smallHunk(), second))
		isRead(t, "0a1\n> a\n"+left, read(left, hunk(0, 0, 1, 1, "+a\n")))
	}
	// A line too many at the end of a change is left.
	isRead(t, "1d0\n< a\n< b\n", read("< b\n", hunk(1, 1, 0, 0, "-a\n")))
	isRead(t, "0a1\n> a\n> b", read("> b", hunk(0, 0, 1, 1, "+a\n")))
	isRead(t, small+"> c\n", read("> c\n", smallHunk()))
	isRead(t, "1d0\n< a\n---\n> b\n", read("---\n> b\n", hunk(1, 1, 0, 0, "-a\n")))
}

// N2: several changes.
func TestParseSeveral(t *testing.T) {
	isRead(t, "0a1\n> a\n2c3\n< b\n---\n> c\n5,6d5\n< d\n< e\n"+noEnd+"left",
		read("left", hunk(0, 0, 1, 1, "+a\n"), hunk(2, 1, 3, 1, "-b\n", "+c\n"), hunk(5, 2, 5, 0, "-d\n", "-e")))
	// How GNU diff tells it.
	isRead(t, "1,3d0\n< #include <a.h>\n< \n< int f;\n7c4,5\n< \treturn 1;\n---\n> \tif (x)\n> \t\treturn 2;\n9a8\n> }\n\\ No newline at end of file\n",
		read("", hunk(1, 3, 0, 0, "-#include <a.h>\n", "-\n", "-int f;\n"), hunk(7, 1, 4, 2, "-\treturn 1;\n", "+\tif (x)\n", "+\t\treturn 2;\n"), hunk(9, 0, 8, 1, "+}")))
}

// N2: hunks that may not be, at their commands.
func TestParseHunkErrors(t *testing.T) {
	for _, text := range []string{
		// beyond the last line that there may be
		"2147483647d0\n< a\n",
		"2147483647,2147483647d0\n< a\n",
		"2147483646,2147483647d0\n< a\n< b\n",
		"0a2147483647\n> a\n",
		"0a2147483646,2147483647\n> a\n> b\n",
		"2147483647c1\n< a\n---\n> b\n",
		"1c2147483647\n< a\n---\n> b\n",
		"1c2147483647\n< a\n---\n> b",
		// lines without an end that are not the last ones of their sides
		"1,2d0\n< a\n\\\n< b\n",
		"1,2d0\n< a\n\\\n< b\n\\\n",
		"0a1,2\n> a\n\\\n> b\n",
		"1,2c1\n< a\n\\\n< b\n---\n> c\n",
		"1c1,2\n< a\n---\n> b\n\\\n> c",
		"1,3c1\n< a\n< b\n\\\n< c\n---\n> d\n",
		// lines that would be empty without their ends
		"1d0\n< \n\\\n",
		"1d0\n< \n\\",
		"0a1\n> \n\\\n",
		"1c1\n< \n\\\n---\n> a\n",
		"1c1\n< a\n---\n> \n\\\n",
	} {
		isRead(t, text, wrong(1, api.ErrLine))
		if !strings.HasSuffix(text, "\n") {
			text += "\n"
		}
		// What stands behind such a change says nothing.
		for _, behind := range []string{"x\n", "9d\n", "9d8\nx\n", small} {
			isRead(t, text+behind, wrong(1, api.ErrLine))
		}
		isRead(t, "0a1\n> x\n"+text, wrong(3, api.ErrLine))
	}
}

// N2: which error comes where several apply to one change, that is out of order, too: its command is the fifth line.
func TestParseErrorsOfOneChange(t *testing.T) {
	const ahead = "5c5\n< a\n---\n> b\n"
	for _, c := range []struct {
		name, text string
		want       answer
	}{
		{"out of order alone", "5c5\n< a\n---\n> b\n", wrong(5, api.ErrOrder)},
		{"and its end taken", "5c5\n< a\n---\n> b\n\\\n", wrong(5, api.ErrOrder)},
		{"and one may not be", "2147483647c1\n< a\n---\n> b\n", wrong(5, api.ErrLine)},
		{"and one may not be, by an end", "5c5\n< a\n---\n> \n\\\n", wrong(5, api.ErrLine)},
		{"and the command's form", "5c\n< a\n---\n> b\n", wrong(5, api.ErrLine)},
		{"and too few lines", "5c5\n< a\n---\n", wrong(8, api.ErrLine)},
		{"and a line too many", "5c5\n< a\n< b\n---\n> b\n", wrong(7, api.ErrLine)},
		{"and another line", "5c5\nx\n", wrong(6, api.ErrLine)},
		{"may not be, and too few lines", "2147483647c1\n< a\n---\n", wrong(8, api.ErrLine)},
		{"out of order, ahead of a second taker of an end", "5c5\n< a\n---\n> b\n\\\n\\\n", wrong(5, api.ErrOrder)},
		{"may not be, ahead of a second taker of an end", "9d8\n< \n\\\n\\\n", wrong(5, api.ErrLine)},
		{"out of order, ahead of a form that can't be", "5c5\n< a\n---\n> b\n6d\n", wrong(5, api.ErrOrder)},
		{"out of order, ahead of too few lines", "5c5\n< a\n---\n> b\n6d5\n", wrong(5, api.ErrOrder)},
		{"may not be, ahead of one out of order", "9d8\n< \n\\\n1d0\n< a\n", wrong(5, api.ErrLine)},
		{"in order, ahead of one out of order", "9d8\n< a\n9d8\n< a\n", wrong(7, api.ErrOrder)},
	} {
		if got := parse(ahead + c.text); !got.same(c.want) {
			t.Errorf("%s: %v, not %v", c.name, got, c.want)
		}
	}
}

// N2: texts of MaxBytes bytes, and of one more.
func TestParseLong(t *testing.T) {
	const most = api.MaxBytes
	const ahead, behind = "1c1\n< ", "\n---\n> b\n"
	line := strings.Repeat("x", most-len(ahead)-len(behind))
	isRead(t, ahead+line+behind, read("", hunk(1, 1, 1, 1, "-"+line+"\n", "+b\n")))
	isRead(t, ahead+line+behind+"\n", wrong(0, api.ErrLong))
	isRead(t, ahead+"x"+line+behind, wrong(0, api.ErrLong))
	left := strings.Repeat("\n", most-len(small))
	isRead(t, small+left, read(left, smallHunk()))
	isRead(t, small+left+"\n", wrong(0, api.ErrLong))
	// A last line without an end takes no byte more.
	long := strings.Repeat("x", most-len("1d0\n< "))
	isRead(t, "1d0\n< "+long, read("", hunk(1, 1, 0, 0, "-"+long+"\n")))
	for _, c := range []struct {
		text string
		line int
		err  error
	}{
		{strings.Repeat("\\", most), 1, api.ErrLine},
		{strings.Repeat("\\", most+1), 0, api.ErrLong},
		{strings.Repeat("x", most+1), 0, api.ErrLong},
		{strings.Repeat("9", most), 1, api.ErrLine},
		{strings.Repeat("9", most+1), 0, api.ErrLong},
		{"1d" + strings.Repeat("9", most-2), 1, api.ErrLine},
		{"1d" + strings.Repeat("0", most-2), 2, api.ErrLine},
		{"1d0\n" + strings.Repeat("\\", most-4), 2, api.ErrLine},
		{"1d0\n< a\n" + strings.Repeat("\\\n", most/2-4), 4, api.ErrLine},
	} {
		isRead(t, c.text, wrong(c.line, c.err))
	}
	text := strings.Repeat("x\n", most/2)
	isRead(t, text, read(text))
}

// P1, N2: as many lines, and as many changes, as a text may have, end soon; and what is left is not gone through.
func TestParseEndsSoon(t *testing.T) {
	soon(t, "many lines", func() {
		const n = api.MaxBytes/3 - 10
		got := parse(fmt.Sprintf("1,%dd0\n%s", n, strings.Repeat("< \n", n)))
		if got.err != nil || len(got.l) != 1 || len(got.l[0].Rows) != n {
			t.Error("many lines:", got.line, got.err)
		}
		got = parse("1,2147483647d0\n" + strings.Repeat("< \n", n))
		if !got.same(wrong(n+2, api.ErrLine)) {
			t.Error("fewer lines than there should be:", got.line, got.err)
		}
	})
	soon(t, "many changes", func() {
		var b strings.Builder
		n := 0
		for ; b.Len() < api.MaxBytes-40; n++ {
			fmt.Fprintf(&b, "0a%d\n> \n", n+1)
		}
		got := parse(b.String())
		if got.err != nil || len(got.l) != n {
			t.Error("many changes:", len(got.l), got.line, got.err)
		}
		again, err := Hunks(got.l)
		isErr(t, "many changes", err, nil)
		if again != b.String() {
			t.Error("many changes are printed otherwise")
		}
	})
	soon(t, "many texts with much left", func() {
		text := small + strings.Repeat("x\n", (api.MaxBytes-len(small))/2)
		for range 200000 {
			if _, _, _, err := Parse(text); err != nil {
				t.Error(err)
			}
		}
	})
}
