package ed

import (
	"fmt"
	"selvage/api"
	"selvage/lines"
	"slices"
	"strings"
	"testing"
)

// four is the text that most commands are tried with.
const four = "1\n2\n3\n4\n"

// mark comes behind the current line, so that one sees which it is.
const mark = "a\n#\n.\n"

// ED2: what each command does, with each number of addresses that it takes.
func TestRunCommands(t *testing.T) {
	for _, c := range []struct{ text, old, want string }{
		{"", "", ""},
		{"", four, four},
		{"a\nx\n.\n", four, "1\n2\n3\n4\nx\n"},
		{"2a\nx\n.\n", four, "1\n2\nx\n3\n4\n"},
		{"2a\nx\ny\nz\n.\n", four, "1\n2\nx\ny\nz\n3\n4\n"},
		{"4a\nx\n.\n", four, "1\n2\n3\n4\nx\n"},
		{"0a\nx\ny\n.\n", four, "x\ny\n1\n2\n3\n4\n"},
		{"2a\n.\n", four, four},
		{"i\nx\n.\n", four, "1\n2\n3\nx\n4\n"},
		{"2i\nx\n.\n", four, "1\nx\n2\n3\n4\n"},
		{"2i\nx\ny\nz\n.\n", four, "1\nx\ny\nz\n2\n3\n4\n"},
		{"1i\nx\n.\n", four, "x\n1\n2\n3\n4\n"},
		{"0i\nx\ny\n.\n", four, "x\ny\n1\n2\n3\n4\n"},
		{"2i\n.\n", four, four},
		{"c\nx\n.\n", four, "1\n2\n3\nx\n"},
		{"2c\nx\n.\n", four, "1\nx\n3\n4\n"},
		{"2c\nx\ny\nz\n.\n", four, "1\nx\ny\nz\n3\n4\n"},
		{"2,3c\nx\n.\n", four, "1\nx\n4\n"},
		{"2,2c\nx\n.\n", four, "1\nx\n3\n4\n"},
		{"1,4c\nx\ny\n.\n", four, "x\ny\n"},
		{"2,3c\n.\n", four, "1\n4\n"},
		{"1,4c\n.\n", four, ""},
		{"d\n", four, "1\n2\n3\n"},
		{"2d\n", four, "1\n3\n4\n"},
		{"2,3d\n", four, "1\n4\n"},
		{"2,2d\n", four, "1\n3\n4\n"},
		{"1,4d\n", four, ""},
		{"s/.//\n", "ab\ncd\n", "ab\nd\n"},
		{"1s/.//\n", "ab\ncd\n", "b\ncd\n"},
		{"1s/.//\n", "a\n", "\n"},
		{"1s/.//\n", "\x00\xff\n", "\xff\n"},
		{"1s/.//\n", "äb\n", "\xa4b\n"},
		{"1s/.//\ns/.//\n", "abc\n", "c\n"},
		{"w\n", four, four},
		{"w\nw\n", "", ""},
		{"q\n", four, four},
		{"1d\nw\n1d\nq\n", four, "3\n4\n"},
		// lines of text are taken as they are
		{"1a\n1d\nq\n\n..\n .\n. \n.\r\ns/.//\n\x00\xff\n.\n", "1\n", "1\n1d\nq\n\n..\n .\n. \n.\r\ns/.//\n\x00\xff\n"},
		{"2c\na\nx\n.\n1d\n", four, "a\nx\n3\n4\n"},
		// each command finds the lines as those ahead of it left them
		{"1d\n1d\n1d\n", four, "4\n"},
		{"1a\nx\n.\n3d\n", four, "1\nx\n3\n4\n"},
	} {
		runs(t, c.text, c.old, made(c.want))
	}
}

// ED2: each form of an address.
func TestRunAddresses(t *testing.T) {
	for _, c := range []struct{ text, want string }{
		{".d\n", "1\n2\n3\n"},
		{"$d\n", "1\n2\n3\n"},
		{"1d\n", "2\n3\n4\n"},
		{"4d\n", "1\n2\n3\n"},
		{".,.d\n", "1\n2\n3\n"},
		{".,$d\n", "1\n2\n3\n"},
		{"$,.d\n", "1\n2\n3\n"},
		{"3,$d\n", "1\n2\n"},
		{"1,.d\n", ""},
		{"1d\n.,$d\n", ""},
		{"2d\n1,.d\n", "4\n"},
		{"2d\n.,3d\n", "1\n"},
		{"1i\n.\n$d\n", "1\n2\n3\n"},
		{".a\nx\n.\n", "1\n2\n3\n4\nx\n"},
		{"$a\nx\n.\n", "1\n2\n3\n4\nx\n"},
		{".i\nx\n.\n", "1\n2\n3\nx\n4\n"},
		{"$i\nx\n.\n", "1\n2\n3\nx\n4\n"},
		{"1,$c\nx\n.\n", "x\n"},
		{"$c\nx\n.\n", "1\n2\n3\nx\n"},
		{".s/.//\n", "1\n2\n3\n\n"},
		{"$s/.//\n", "1\n2\n3\n\n"},
		{"3s/.//\n", "1\n2\n\n4\n"},
	} {
		runs(t, c.text, four, made(c.want))
	}
	ten := strings.Repeat("x\n", 9) + "10\n11\n"
	runs(t, "10d\n", ten, made(strings.Repeat("x\n", 9)+"11\n"))
	runs(t, "1,10d\n", ten, made("11\n"))
}

// notCommands are lines, without their end, that are no command.
func notCommands() []string {
	return []string{
		"", " ", "=", "1=", "$=", "p", "1p", "e", "f", "g", "h", "j", "k", "l", "m", "n", "r", "t", "u", "v", "x", "z", "1z", "A", "1A", "D", "W", "Q", "wq", "W", "!", "#", "x x",
		// numbers alone, and what follows a command
		"1", "1,2", "$", ".", "..", "dd", "1dd", "dp", "1d ", "1d\r", "1d1", "ax", "a x", "1a\x00", "w ", "w x", "q!", "qq", "s", "s/", "s/./", "s/.//g", "s/.//p", "s/x//", "s/.///", "s/./ /", "s,.,,", "1s/..//", "/s/.//", "s/.//s/.//",
		// addresses that are none
		" 1d", "1 d", "+1d", "-1d", "-d", "+d", "01d", "00d", "001d", "1,02d", "01,2d", "00a", "0x1d", "1.d", ".1d", "$1d", "..d", "$$d", "1.0d", "1e0d", "1_0d", "'ad", "/x/d", "?x?d", "%d", "$-1d", ".+1d", "xd", "\x00d", "\xffd",
		"2147483648d", "2147483648a", "2147483648i", "2147483648c", "2147483648s/.//", "1,2147483648d", "2147483648,1d", "9223372036854775807d", "9223372036854775808d", "18446744073709551617d", strings.Repeat("9", 99) + "d", strings.Repeat("0", 99) + "1d",
		// two addresses that have not their form
		",d", "1,d", ",1d", ",,d", "1,,2d", "1;2d", ";d", "1, 2d", "1 ,2d", "1,2,d", ",1,2d", "1-2d", "1:2d",
		// more addresses than it takes
		"1,2a", "1,1a", "0,0a", ".,$a", "1,2i", "0,1i", "1,2s/.//", "1,1s/.//", "$,$s/.//", "1w", "0w", ".w", "$w", "1,2w", "1q", "0q", ".q", "$q", "1,2q", "1,2,3d", "1,2,3c", "1,1,1d", "1,2,3,4d", "1,2,3a", strings.Repeat("1,", 99) + "1d",
		// of such, with a place that can't be
		"9,1a", "9w", "9,9,9d", "0,0s/.//",
	}
}

// ED2: ErrForm at a line that is no command, the first one or a later one; and at one that has no end.
func TestRunFormErrors(t *testing.T) {
	for _, line := range notCommands() {
		for _, old := range []string{"", "1\n", four} {
			runs(t, line+"\n", old, wrong(1, api.ErrForm))
			runs(t, line+"\nx\n.\n", old, wrong(1, api.ErrForm))
			runs(t, line+"\nq\n", old, wrong(1, api.ErrForm))
			runs(t, "w\n0a\n.\n"+line+"\n", old, wrong(4, api.ErrForm))
			if line != "" {
				runs(t, line, old, wrong(1, api.ErrForm))
				runs(t, "0a\nx\n.\n"+line, old, wrong(4, api.ErrForm))
			}
		}
	}
	for _, line := range []string{"d", "1d", "1,2d", "a", "0a", "i", "1i", "c", "1,2c", "s/.//", "1s/.//", "w", "q", "9d", "0d"} {
		runs(t, line, four, wrong(1, api.ErrForm))
		runs(t, "1d\n"+line, four, wrong(2, api.ErrForm))
		runs(t, "1a\nx\ny\n.\nw\n"+line, four, wrong(6, api.ErrForm))
	}
	// No command is looked for within lines of text, and none behind a q.
	runs(t, "1a\n=\n.\n", "1\n", made("1\n=\n"))
	runs(t, "1a\nx\n.\ny\n.\n", "1\n", wrong(4, api.ErrForm))
}

// ED2: ErrPlace: an address above the number of lines, the second one below the first, or 0 where a line is meant.
func TestRunPlaceErrors(t *testing.T) {
	text := func(address, name string) string {
		if strings.Contains("aic", name) {
			return address + name + "\nx\n.\n"
		}
		return address + name + "\n"
	}
	above := []string{"5", "6", "10", "99", "2147483646", "2147483647"}
	for _, name := range []string{"a", "i", "c", "d", "s/.//"} {
		for _, address := range above {
			runs(t, text(address, name), four, wrong(1, api.ErrPlace))
			runs(t, "0a\n.\nw\n"+text(address, name), four, wrong(4, api.ErrPlace))
		}
		runs(t, text("1", name), "", wrong(1, api.ErrPlace))
		runs(t, "1,4d\n"+text("1", name), four, wrong(2, api.ErrPlace))
		runs(t, "1d\n"+text("4", name), four, wrong(2, api.ErrPlace))
	}
	for _, name := range []string{"c", "d"} {
		for _, addresses := range []string{"1,5", "4,5", "5,5", "5,6", "5,4", "6,5", "5,1", "2,1", "4,3", "4,1", "1,2147483647", "2147483647,2147483647", "2147483647,1", "$,1", "$,3", ".,3", "5,$", "5,.", "$,5", "0,0", "0,1", "0,4", "1,0", "0,$", "$,0", "0,5"} {
			runs(t, text(addresses, name), four, wrong(1, api.ErrPlace))
		}
	}
	for _, name := range []string{"c", "d", "s/.//"} {
		runs(t, text("0", name), four, wrong(1, api.ErrPlace))
		// No line, so that the last one is 0, and the current one too.
		for _, address := range []string{"0", "", ".", "$"} {
			runs(t, text(address, name), "", wrong(1, api.ErrPlace))
			runs(t, "1,4d\n"+text(address, name), four, wrong(2, api.ErrPlace))
		}
		// Lines, but the current one is 0.
		for _, ahead := range []string{"1i\n.\n", "0i\n.\n", "0a\n.\n"} {
			for _, address := range []string{"", "."} {
				runs(t, ahead+text(address, name), four, wrong(3, api.ErrPlace))
			}
		}
	}
	for _, addresses := range []string{".,.", "$,$", ".,$", "1,$", "1,."} {
		runs(t, text(addresses, "d"), "", wrong(1, api.ErrPlace))
		runs(t, text(addresses, "c"), "", wrong(1, api.ErrPlace))
	}
	runs(t, "2d\n.,1d\n", four, wrong(2, api.ErrPlace))
	runs(t, "0a\n.\n.,1d\n", four, wrong(3, api.ErrPlace))
}

// ED2: a and i may stand at 0, by whatever address, w and q wherever the current line is.
func TestRunAtNought(t *testing.T) {
	for _, name := range []string{"a", "i"} {
		for _, address := range []string{"0", "", ".", "$"} {
			runs(t, address+name+"\nx\n.\n", "", made("x\n"))
			runs(t, address+name+"\n.\n", "", made(""))
			runs(t, "1,4d\n"+address+name+"\nx\ny\n.\n", four, made("x\ny\n"))
		}
		runs(t, "0"+name+"\nx\n.\n", four, made("x\n"+four))
		for _, ahead := range []string{"1i\n.\n", "0i\n.\n", "0a\n.\n"} {
			runs(t, ahead+name+"\nx\n.\n", four, made("x\n"+four))
			runs(t, ahead+"."+name+"\nx\n.\n", four, made("x\n"+four))
		}
	}
	for _, name := range []string{"w", "q"} {
		runs(t, name+"\n", "", made(""))
		runs(t, "0a\n.\n"+name+"\n", four, made(four))
	}
}

// ED2: the current line behind each command.
func TestRunCurrentLine(t *testing.T) {
	for _, c := range []struct{ text, old, want string }{
		// at the beginning
		{"", "", "#\n"},
		{"", "1\n", "1\n#\n"},
		{"", four, four + "#\n"},
		// lines came
		{"2a\nx\ny\n.\n", four, "1\n2\nx\ny\n#\n3\n4\n"},
		{"0a\nx\n.\n", four, "x\n#\n1\n2\n3\n4\n"},
		{"2i\nx\ny\n.\n", four, "1\nx\ny\n#\n2\n3\n4\n"},
		{"0i\nx\n.\n", four, "x\n#\n1\n2\n3\n4\n"},
		{"i\nx\n.\n", "", "x\n#\n"},
		{"2c\nx\ny\n.\n", four, "1\nx\ny\n#\n3\n4\n"},
		{"1,3c\nx\n.\n", four, "x\n#\n4\n"},
		{"1,4c\nx\n.\n", four, "x\n#\n"},
		// none came
		{"2a\n.\n", four, "1\n2\n#\n3\n4\n"},
		{"0a\n.\n", four, "#\n" + four},
		{"4a\n.\n", four, four + "#\n"},
		{"a\n.\n", "", "#\n"},
		{"3i\n.\n", four, "1\n2\n#\n3\n4\n"},
		{"2i\n.\n", four, "1\n#\n2\n3\n4\n"},
		{"1i\n.\n", four, "#\n" + four},
		{"0i\n.\n", four, "#\n" + four},
		{"i\n.\n", "", "#\n"},
		{"2c\n.\n", four, "1\n3\n#\n4\n"},
		{"1,2c\n.\n", four, "3\n#\n4\n"},
		{"3,4c\n.\n", four, "1\n2\n#\n"},
		{"1,4c\n.\n", four, "#\n"},
		// lines went
		{"1d\n", four, "2\n#\n3\n4\n"},
		{"2d\n", four, "1\n3\n#\n4\n"},
		{"2,3d\n", four, "1\n4\n#\n"},
		{"3,4d\n", four, "1\n2\n#\n"},
		{"4d\n", four, "1\n2\n3\n#\n"},
		{"1,4d\n", four, "#\n"},
		// a line was stripped
		{"2s/.//\n", four, "1\n\n#\n3\n4\n"},
		{"4s/.//\n", four, "1\n2\n3\n\n#\n"},
		// nothing was done
		{"2a\n.\nw\n", four, "1\n2\n#\n3\n4\n"},
		{"w\n", four, four + "#\n"},
		// several
		{"2d\nd\n", four, "1\n4\n#\n"},
		{"2d\nd\nd\n", four, "1\n#\n"},
		{"1d\ni\nx\n.\n", four, "x\n#\n2\n3\n4\n"},
		{"2s/.//\nd\n", four, "1\n3\n#\n4\n"},
		{"2i\nx\n.\nc\ny\n.\n", four, "1\ny\n#\n2\n3\n4\n"},
	} {
		runs(t, c.text+mark, c.old, made(c.want))
	}
}

// ED2: s/.// of a line that is empty but for its end.
func TestRunStripErrors(t *testing.T) {
	for _, c := range []struct {
		text, old string
		line      int
	}{
		{"s/.//\n", "\n", 1},
		{"1s/.//\n", "\n2\n", 1},
		{"$s/.//\n", "1\n\n", 1},
		{"1s/.//\n1s/.//\n", "a\n", 2},
		{"1s/.//\ns/.//\ns/.//\n", "ab\n", 3},
		{"w\n0a\nx\n\n.\ns/.//\n", "1\n", 6},
	} {
		runs(t, c.text, c.old, wrong(c.line, api.ErrForm))
		runs(t, c.text+"q\n", c.old, wrong(c.line, api.ErrForm))
	}
}

// ED2: behind q nothing is looked at, behind w all is.
func TestRunQuit(t *testing.T) {
	for _, behind := range []string{"", "x", "x\n", "q", "1d\n", "1d", "0d\n", "1a\n", ".\n", "\n", "=\n", strings.Repeat("x", 99)} {
		runs(t, "q\n"+behind, four, made(four))
		runs(t, "1d\nq\n"+behind, four, made("2\n3\n4\n"))
		runs(t, "q\n"+behind, "", made(""))
	}
	runs(t, "w\n1d\n", four, made("2\n3\n4\n"))
	runs(t, "w\nx\n", four, wrong(2, api.ErrForm))
	runs(t, "w\n0d\n", four, wrong(2, api.ErrPlace))
	// A line of text is no command.
	runs(t, "1c\nq\n.\n2d\n", four, made("q\n3\n4\n"))
}

// ED2: lines of text that do not end, also where the last one is not whole.
func TestRunDotErrors(t *testing.T) {
	for _, name := range []string{"a", "i", "c", "1a", "0a", "2i", "0i", "$c", "1,2c", ".a"} {
		for _, behind := range []string{"", "x", "x\n", ".", "x\n.", "x\ny", "..\n", " .\n", ". \n", ".\r\n", "\n", "\n\n", "1d\n", "q\n", "x\n..", "x\n.x\n", ".x"} {
			runs(t, name+"\n"+behind, four, wrong(1, api.ErrDot))
			runs(t, "1s/.//\n"+name+"\n"+behind, four, wrong(2, api.ErrDot))
			runs(t, "1a\nx\n.\n"+name+"\n"+behind, four, wrong(4, api.ErrDot))
		}
	}
}

// notWhole are lists that are no text's lines, or have one that is not whole.
func notWhole() [][]string {
	return append(notLines(), []string{"1"}, []string{"1\n", "2"}, []string{"."}, []string{"1\n", "\x00"})
}

// ED2, ED7: what is handed in: first the lines, then how long the text is, and then the commands.
func TestWhatIsHandedIn(t *testing.T) {
	fine, long := strings.Repeat("w\n", api.MaxBytes/2), strings.Repeat("x", api.MaxBytes+1)
	for name, call := range players() {
		for _, l := range notWhole() {
			for _, text := range []string{"", "1d\n", "d1 1\n", "q\n", "x", "=\n", "1a\n", "a1 1\n", "9d\n", "d9 9\n", long} {
				made, line, err := call(text, l)
				isAnswer(t, fmt.Sprintf("%s of %.20q with %q", name, text, l), answers{made, line, err}, wrong(0, api.ErrForm))
			}
		}
		for _, l := range []string{"", "1\n", four} {
			for _, text := range []string{long, fine + "w", "q\n" + long, fine + "x\n", "1d\n" + long} {
				made, line, err := call(text, lines.Split(l))
				isAnswer(t, name+" of a text that is too long", answers{made, line, err}, wrong(0, api.ErrLong))
			}
		}
	}
	// As long as may be.
	runs(t, fine, four, made(four))
	runs(t, fine[:len(fine)-1]+"x", four, wrong(api.MaxBytes/2, api.ErrForm))
	runs(t, "q\n"+fine[2:len(fine)-1]+"x", four, made(four))
}

// sized are lines of so many bytes in all, n of them, the last one taking what is left.
func sized(bytes, n int) []string {
	l := slices.Repeat([]string{"x\n"}, n-1)
	return append(l, strings.Repeat("y", bytes-2*(n-1)-1)+"\n")
}

// ED2: the lines may have MaxBytes bytes together, and no more.
func TestRunLong(t *testing.T) {
	for _, n := range []int{1, 3, 1000} {
		full := sized(api.MaxBytes, n)
		less := sized(api.MaxBytes-2, n)
		for _, c := range []struct {
			what, text string
			l          []string
			want       answers
		}{
			{"a, full", "1a\nx\n.\n", less, answers{l: slices.Insert(slices.Clone(less), 1, "x\n")}},
			{"a, one more", "1a\nxy\n.\n", less, wrong(1, api.ErrLong)},
			{"a of nothing", "1a\n.\n", full, answers{l: full}},
			{"a of an empty line", "0a\n\n.\n", full, wrong(1, api.ErrLong)},
			{"i, full", "1i\nx\n.\n", less, answers{l: slices.Insert(slices.Clone(less), 0, "x\n")}},
			{"i, one more", "1i\nxy\n.\n", less, wrong(1, api.ErrLong)},
			{"i of an empty line", "0i\n\n.\n", full, wrong(1, api.ErrLong)},
			{"c of as many", "$c\n" + full[n-1] + ".\n", full, answers{l: full}},
			{"c of one more", "$c\nx" + full[n-1] + ".\n", full, wrong(1, api.ErrLong)},
			{"d", "$d\n", full, answers{l: full[:n-1]}},
			{"w", "w\n", full, answers{l: full}},
			{"q", "q\n", full, answers{l: full}},
			{"s", "$s/.//\n", full, answers{l: sized(api.MaxBytes-1, n)}},
			{"room that was made", "$s/.//\n$a\n\n.\n", full, answers{l: append(sized(api.MaxBytes-1, n), "\n")}},
			{"room that was taken", "$s/.//\n$a\n\n.\nw\n$a\n\n.\n", full, wrong(6, api.ErrLong)},
			{"room that would be made", "0a\n\n.\n1d\n", full, wrong(1, api.ErrLong)},
		} {
			if len(c.text) <= api.MaxBytes {
				isAnswer(t, fmt.Sprint(c.what, " of ", n), run(c.text, c.l), c.want)
			}
		}
	}
}

// ED2: lines that have too many bytes from the beginning on are too long at each command that leaves too many.
func TestRunLongFromTheBeginning(t *testing.T) {
	l := append(sized(api.MaxBytes-1, 3), "ab\n") // two more than there may be
	for _, c := range []struct {
		text string
		want answers
	}{
		{"", answers{l: l}},
		{"w\n", wrong(1, api.ErrLong)},
		{"q\n", wrong(1, api.ErrLong)},
		{"0a\n.\n", wrong(1, api.ErrLong)},
		{"1i\n.\n", wrong(1, api.ErrLong)},
		{"s/.//\n", wrong(1, api.ErrLong)},
		{"$c\nx\n.\n", wrong(1, api.ErrLong)},
		{"$c\n\n.\n", answers{l: append(sized(api.MaxBytes-1, 3), "\n")}},
		{"1d\n", answers{l: l[1:]}},
		{"4d\n", answers{l: l[:3]}},
		{"1d\n0a\nx\n.\n", wrong(2, api.ErrLong)},
	} {
		isAnswer(t, c.text, run(c.text, l), c.want)
	}
	// What would be left counts, also where an empty line is to be stripped.
	for extra, want := range map[int]answers{0: wrong(1, api.ErrForm), 1: wrong(1, api.ErrForm), 2: wrong(1, api.ErrLong)} {
		l := append(sized(api.MaxBytes-1+extra, 2), "\n")
		isAnswer(t, fmt.Sprint("s/.// of an empty line, ", extra), run("s/.//\n", l), want)
	}
	still := sized(api.MaxBytes+3, 3)
	isAnswer(t, "a line goes, and too many bytes are left", run("1d\n", still), wrong(1, api.ErrLong))
	isAnswer(t, "two lines go", run("1,2d\n", still), answers{l: still[2:]})
}

// ED2: of several errors at one command the first one is told, and of several commands the first one's.
func TestRunErrorsInTheirOrder(t *testing.T) {
	full := sized(api.MaxBytes, 2)
	over := append(sized(api.MaxBytes+1, 2), "\n")
	for _, c := range []struct {
		what, text string
		l          []string
		want       answers
	}{
		{"form ahead of place", "9,9a\nx\n.\n", full, wrong(1, api.ErrForm)},
		{"form ahead of place, without an end", "9d", full, wrong(1, api.ErrForm)},
		{"form ahead of dot", "01a\nx\n", full, wrong(1, api.ErrForm)},
		{"form, where the text is all of the command", "9a", full, wrong(1, api.ErrForm)},
		{"place ahead of dot", "9a\nx\n", full, wrong(1, api.ErrPlace)},
		{"place ahead of dot, of c", "0c\nx", full, wrong(1, api.ErrPlace)},
		{"place ahead of dot, of i", "3i\n", full, wrong(1, api.ErrPlace)},
		{"place ahead of long", "9a\nx\n.\n", full, wrong(1, api.ErrPlace)},
		{"place ahead of long, of d", "0d\n", over, wrong(1, api.ErrPlace)},
		{"place ahead of the strip", "0s/.//\n", []string{"\n"}, wrong(1, api.ErrPlace)},
		{"dot ahead of long", "1a\nx\n", full, wrong(1, api.ErrDot)},
		{"dot ahead of long, of a last line that is not whole", "1a\nx\n.", full, wrong(1, api.ErrDot)},
		{"long ahead of the strip", "3s/.//\n", over, wrong(1, api.ErrLong)},
		{"the first command's", "0d\nx\n", full, wrong(1, api.ErrPlace)},
		{"the first command's, though the last has no end", "1a\nx\n.\n1d", full, wrong(1, api.ErrLong)},
		{"the second command's", "1d\n9d\nx\n", full, wrong(2, api.ErrPlace)},
		{"the line behind lines of text", "1c\n\n\n.\n1d\n=\n", full, wrong(6, api.ErrForm)},
	} {
		isAnswer(t, c.what, run(c.text, c.l), c.want)
	}
}
