package ed

import (
	"fmt"
	"selvage/api"
	"selvage/lines"
	"slices"
	"strings"
	"testing"
)

// ED7: what the commands do; the numbers mean the old lines, whatever was done ahead.
func TestPatchCommands(t *testing.T) {
	for _, c := range []struct{ text, old, want string }{
		{"", "", ""},
		{"", four, four},
		{"d1 1\n", four, "2\n3\n4\n"},
		{"d2 2\n", four, "1\n4\n"},
		{"d4 1\n", four, "1\n2\n3\n"},
		{"d1 4\n", four, ""},
		{"a0 1\nx\n", four, "x\n1\n2\n3\n4\n"},
		{"a0 2\nx\ny\n", "", "x\ny\n"},
		{"a2 1\nx\n", four, "1\n2\nx\n3\n4\n"},
		{"a4 3\nx\ny\nz\n", four, "1\n2\n3\n4\nx\ny\nz\n"},
		{"d2 1\na2 1\nx\n", four, "1\nx\n3\n4\n"},
		{"d1 4\na4 2\nx\ny\n", four, "x\ny\n"},
		{"d1 1\nd2 1\nd3 1\n", four, "4\n"},
		{"d1 1\nd3 1\n", four, "2\n4\n"},
		{"a0 1\nx\nd1 1\n", four, "x\n2\n3\n4\n"},
		{"a1 1\nx\nd2 3\n", four, "1\nx\n"},
		{"a1 1\nx\na1 2\ny\nz\na2 1\nu\n", four, "1\nx\ny\nz\n2\nu\n3\n4\n"},
		{"a0 1\nx\na0 1\ny\n", "", "x\ny\n"},
		{"d2 1\na3 1\nx\nd4 1\na4 1\ny\n", four, "1\n3\nx\ny\n"},
		{"a1 1\nx\na2 1\ny\nd3 1\na3 1\nz\nd4 1\n", four, "1\nx\n2\ny\nz\n"},
		// lines that come are taken as they are
		{"a1 7\nd1 1\na0 1\n\n.\n..\n\x00\xff\ns/.//\n", "1\n", "1\nd1 1\na0 1\n\n.\n..\n\x00\xff\ns/.//\n"},
	} {
		patches(t, c.text, c.old, made(c.want))
	}
	ten := strings.Repeat("x\n", 9) + "10\n11\n"
	patches(t, "d10 1\na11 11\n"+strings.Repeat("y\n", 11), ten, made(strings.Repeat("x\n", 9)+"11\n"+strings.Repeat("y\n", 11)))
}

// notRcs are lines, without their end, that are no command of RCS.
func notRcs() []string {
	return []string{
		"", " ", "x", "d", "a", "d1", "a1", "d1 ", "a1 ", "d 1", "d  1", "d1  1", "d1 1 ", " d1 1", "d1\t1", "d1,1", "d1 1 1", "d1 1x", "dx 1", "d1 x", "d1 1\r", "d1\x001", "\x00d1 1",
		"1d", "1d 1", "1 1", "1a", "1 1d", "c1 1", "i1 1", "D1 1", "A1 1", "s/.//", "w", "q", ".", "=", "dd1 1", "ad1 1", "d1 1d1 1",
		// numbers as an address is written, but no other address
		"d01 1", "d1 01", "d00 1", "d1 00", "a00 1", "a01 1", "a1 01", "d+1 1", "d1 +1", "d-1 1", "d1 -1", "a-0 1", "d. 1", "d$ 1", "d1 $", "d1 .", "a$ 1", "a. 1", "a1 .", "d0x1 1", "d1_0 1", "d1.0 1",
		"d2147483648 1", "d1 2147483648", "a2147483648 1", "a1 2147483648", "d9223372036854775808 1", "a1 18446744073709551617", "d1 " + strings.Repeat("9", 99), "d" + strings.Repeat("0", 99) + "1 1",
		// the second number at least 1
		"d1 0", "a1 0", "a0 0", "d0 0", "d9 0", "a9 0",
	}
}

// ED7: ErrForm at a line that is no command, the first one or a later one; and at one that has no end.
func TestPatchFormErrors(t *testing.T) {
	for _, line := range notRcs() {
		for _, old := range []string{"", "1\n", four} {
			patches(t, line+"\n", old, wrong(1, api.ErrForm))
			patches(t, line+"\nx\nd1 1\n", old, wrong(1, api.ErrForm))
			patches(t, "a0 2\nx\ny\n"+line+"\n", old, wrong(4, api.ErrForm))
			if line != "" {
				patches(t, line, old, wrong(1, api.ErrForm))
				patches(t, "a0 1\nx\n"+line, old, wrong(3, api.ErrForm))
			}
		}
	}
	for _, line := range []string{"d1 1", "d2 1", "a1 1", "d9 9", "a9 9", "d0 1"} {
		patches(t, line, four, wrong(1, api.ErrForm))
		patches(t, "d1 1\n"+line, four, wrong(2, api.ErrForm))
	}
}

// ED7: ErrPlace: lines that are not there, or that were used.
func TestPatchPlaceErrors(t *testing.T) {
	for _, c := range []struct {
		text, old string
		line      int
	}{
		// from line 0 on
		{"d0 1\n", four, 1},
		{"d0 4\n", four, 1},
		{"d0 1\n", "", 1},
		{"a0 1\nx\nd0 1\n", four, 3},
		// beyond the last one
		{"d1 1\n", "", 1},
		{"d5 1\n", four, 1},
		{"d4 2\n", four, 1},
		{"d1 5\n", four, 1},
		{"d1 2147483647\n", four, 1},
		{"d2147483647 1\n", four, 1},
		{"d2147483647 2147483647\n", four, 1},
		{"d1 1\nd2 4\n", four, 2},
		{"a5 1\nx\n", four, 1},
		{"a1 1\nx\n", "", 1},
		{"a2147483647 1\nx\n", four, 1},
		{"a4 1\nx\na5 1\ny\n", four, 3},
		// the new lines do not count
		{"a4 2\nx\ny\nd5 1\n", four, 4},
		{"a0 1\nx\nd1 1\n", "", 3},
		// used: those that went, and all ahead of them
		{"d2 2\nd1 1\n", four, 2},
		{"d2 2\nd2 1\n", four, 2},
		{"d2 2\nd3 1\n", four, 2},
		{"d2 2\nd3 2\n", four, 2},
		{"d2 2\nd1 4\n", four, 2},
		{"d2 1\nd4 1\nd3 1\n", four, 3},
		{"d2 2\na0 1\nx\n", four, 2},
		{"d2 2\na1 1\nx\n", four, 2},
		{"d2 2\na2 1\nx\n", four, 2},
		// used: the one behind which lines came, and all ahead of it
		{"a2 1\nx\nd2 1\n", four, 3},
		{"a2 1\nx\nd1 1\n", four, 3},
		{"a2 1\nx\nd1 4\n", four, 3},
		{"a2 1\nx\na1 1\ny\n", four, 3},
		{"a2 1\nx\na0 1\ny\n", four, 3},
		{"d1 1\na3 1\nx\nd3 1\n", four, 4},
		{"d1 1\na3 1\nx\nd2 1\n", four, 4},
		{"d1 1\na3 1\nx\na2 1\ny\n", four, 4},
		{"a4 1\nx\nd4 1\n", four, 3},
	} {
		patches(t, c.text, c.old, wrong(c.line, api.ErrPlace))
		patches(t, c.text+"x", c.old, wrong(c.line, api.ErrPlace))
	}
}

// ED7: fewer lines follow than there should be, or one is not whole.
func TestPatchDotErrors(t *testing.T) {
	for _, c := range []struct{ command, behind string }{
		{"a1 1", ""}, {"a1 1", "x"}, {"a1 1", "."},
		{"a1 2", ""}, {"a1 2", "x\n"}, {"a1 2", "x\ny"}, {"a1 2", "x"}, {"a1 2", "d2 1\n"},
		{"a4 3", "x\ny\n"}, {"a0 3", "x\ny\nz"}, {"a2 2147483647", "x\ny\nz\n"}, {"a4 2147483647", ""},
	} {
		patches(t, c.command+"\n"+c.behind, four, wrong(1, api.ErrDot))
		patches(t, "a0 2\nx\ny\n"+c.command+"\n"+c.behind, four, wrong(4, api.ErrDot))
	}
	patches(t, "d1 1\na1 1\n", four, wrong(2, api.ErrDot))
	patches(t, "a1 1\nx\n", four, made("1\nx\n2\n3\n4\n"))
	patches(t, "a1 1\nx", four, wrong(1, api.ErrDot))
}

// ED7: the lines may have MaxBytes bytes together behind an a, and no more.
func TestPatchLong(t *testing.T) {
	for _, n := range []int{1, 3, 1000} {
		full, less := sized(api.MaxBytes, n), sized(api.MaxBytes-2, n)
		at := fmt.Sprint("a", n, " 1\n")
		for _, c := range []struct {
			what, text string
			l          []string
			want       answers
		}{
			{"full", "a1 1\nx\n", less, answers{l: slices.Insert(slices.Clone(less), 1, "x\n")}},
			{"one more", "a1 1\nxy\n", less, wrong(1, api.ErrLong)},
			{"an empty line", "a0 1\n\n", full, wrong(1, api.ErrLong)},
			{"an empty line at the end", at + "\n", full, wrong(1, api.ErrLong)},
			{"room that was made", "d1 1\na1 1\n\n", full, answers{l: slices.Concat([]string{"\n"}, full[1:])}},
			{"room that would be made", "a0 1\n\nd1 1\n", full, wrong(1, api.ErrLong)},
			{"room that would be made for all", "a0 1\n\nd1 " + fmt.Sprint(n) + "\n", full, wrong(1, api.ErrLong)},
			{"two that are full", "a0 1\n\na0 1\n\n", less, answers{l: slices.Concat([]string{"\n", "\n"}, less)}},
			{"three that are more", "a0 1\n\na0 1\n\na0 1\n\n", less, wrong(5, api.ErrLong)},
		} {
			isAnswer(t, fmt.Sprint(c.what, " of ", n), patch(c.text, c.l), c.want)
		}
	}
	// Lines that go do not ask, though too many bytes are left.
	over := append(sized(api.MaxBytes+1, 3), "ab\n")
	for _, c := range []struct {
		text string
		want answers
	}{
		{"", answers{l: over}},
		{"d1 1\n", answers{l: over[1:]}},
		{"d1 1\nd2 1\n", answers{l: over[2:]}},
		{"d1 1\nd2 1\na2 1\n\n", wrong(3, api.ErrLong)},
		{"d1 1\na1 1\n\n", wrong(2, api.ErrLong)},
		{"d1 2\nd4 1\na4 1\nxy\n", answers{l: []string{over[2], "xy\n"}}},
		{"d1 2\nd4 1\na4 1\nxyz\n", wrong(3, api.ErrLong)},
		{"d1 2\na2 1\nx\nd4 1\n", wrong(2, api.ErrLong)},
		{"a0 1\n\n", wrong(1, api.ErrLong)},
	} {
		isAnswer(t, fmt.Sprintf("%q of lines that are too long", c.text), patch(c.text, over), c.want)
	}
}

// ED7: of several errors at one command the first one is told, and of several commands the first one's.
func TestPatchErrorsInTheirOrder(t *testing.T) {
	full := sized(api.MaxBytes, 2)
	for _, c := range []struct {
		what, text string
		want       answers
	}{
		{"form ahead of place", "d9 0\n", wrong(1, api.ErrForm)},
		{"form ahead of place, without an end", "d9 1", wrong(1, api.ErrForm)},
		{"form ahead of dot", "a01 1\n", wrong(1, api.ErrForm)},
		{"form ahead of dot, without an end", "a1 1", wrong(1, api.ErrForm)},
		{"place ahead of dot", "a3 1\n", wrong(1, api.ErrPlace)},
		{"place ahead of dot, of a line that was used", "d1 2\na1 1\nx", wrong(2, api.ErrPlace)},
		{"place ahead of long", "a3 1\nx\n", wrong(1, api.ErrPlace)},
		{"dot ahead of long", "a1 2\nx\n", wrong(1, api.ErrDot)},
		{"dot ahead of long, of a line that is not whole", "a1 1\nx", wrong(1, api.ErrDot)},
		{"the first command's", "d0 1\nx\n", wrong(1, api.ErrPlace)},
		{"the first command's, though the last has no end", "a1 1\nx\nd1 1", wrong(1, api.ErrLong)},
		{"the second command's", "d1 1\na1 3\n\n\n\nx\n", wrong(2, api.ErrLong)},
		{"the line behind lines that came", "d1 1\na1 2\n\n\nx\n", wrong(5, api.ErrForm)},
	} {
		isAnswer(t, c.what, patch(c.text, full), c.want)
	}
	// As long as a text may be.
	head := "a0 1\n"
	line := strings.Repeat("x", api.MaxBytes-len(head)-1) + "\n"
	isAnswer(t, "a text as long as may be", patch(head+line, nil), answers{l: []string{line}})
	isAnswer(t, "a text that is too long", patch(head+"x"+line, nil), wrong(0, api.ErrLong))
	isAnswer(t, "a text that is too long, and lines that are none", patch(head+"x"+line, lines.Split("x")), wrong(0, api.ErrForm))
}
