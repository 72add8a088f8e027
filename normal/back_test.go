package normal

import (
	"fmt"
	"selvage/api"
	"selvage/edits"
	"selvage/hunks"
	"selvage/lines"
	"strings"
	"testing"
)

// hunksOf are the hunks that a script's text is to be read as: its changes and their lines.
func hunksOf(s []api.Change, a, b []string) []api.Hunk {
	var l []api.Hunk
	for _, c := range joined(s) {
		h := api.Hunk{A: c.A, N: c.N, B: c.B, M: c.M}
		if c.N > 0 {
			h.A++
		}
		if c.M > 0 {
			h.B++
		}
		for _, line := range a[c.A : c.A+c.N] {
			h.Rows = append(h.Rows, api.Row{Kind: api.RowOld, Text: line})
		}
		for _, line := range b[c.B : c.B+c.M] {
			h.Rows = append(h.Rows, api.Row{Kind: api.RowNew, Text: line})
		}
		l = append(l, h)
	}
	return l
}

// comesBack fails where a script, printed, is not read again as its changes and their lines, with nothing left; or where these hunks are not told as the same text.
func comesBack(t *testing.T, s []api.Change, a, b []string) {
	t.Helper()
	text, err := Print(s, a, b)
	if err != nil {
		t.Errorf("Print of %v %.300q %.300q: %v", s, a, b, err)
		return
	}
	want := read("", hunksOf(s, a, b)...)
	isRead(t, text, want)
	// What is put behind the text is left, if it can't belong to it.
	want.left = "diff\n" + small
	isRead(t, text+want.left, want)
	again, err := Hunks(want.l)
	isText(t, "Hunks", again, err, text)
}

// N4, P13, P11: all small scripts, with last lines with an end and without.
func TestSmallScriptsComeBack(t *testing.T) {
	n := 0
	eachSmall(4, func(s []api.Change, a, b []string) {
		comesBack(t, s, a, b)
		n++
	})
	if n < 10000 {
		t.Error("only", n, "scripts")
	}
}

// N4, P13, P11: the scripts of all small texts, read again, tell the script, and are the hunks that hunks.Build makes without context.
func TestSmallTextsComeBack(t *testing.T) {
	texts := smallTexts([]string{"1\n", "\n", "---\n", "\\"}, 3)
	n := 0
	for _, x := range texts {
		for _, y := range texts {
			a, b := lines.Split(x), lines.Split(y)
			if len(a)+len(b) > 4 {
				continue
			}
			for _, s := range allScripts(len(a), len(b)) {
				comesBack(t, s, a, b)
				l, err := hunks.Build(s, a, b, 0)
				if err != nil {
					continue
				}
				n++
				text, err := Print(s, a, b)
				isErr(t, "Print", err, nil)
				isRead(t, text, read("", l...))
				again, err := Hunks(l)
				isText(t, "Hunks of what is built", again, err, text)
				got, _, _, _ := Parse(text)
				back, err := hunks.Script(got, len(a), len(b))
				want, _ := edits.Normal(s, len(a), len(b))
				if err != nil || fmt.Sprint(back) != fmt.Sprint(want) {
					t.Errorf("%q: %v, %v, not %v", text, back, err, want)
				}
			}
		}
	}
	if n < 1000 {
		t.Error("only", n, "scripts")
	}
}

// N4: lines of each byte but 10, with an end and without, on each side.
func TestLinesComeBack(t *testing.T) {
	for c := range 256 {
		if c == 10 {
			continue
		}
		one := string([]byte{byte(c)})
		for _, line := range []string{one, one + "x", "x" + one, one + one} {
			for _, end := range []string{"", "\n"} {
				several := []string{line + "\n", line + line + "\n", line + end}
				comesBack(t, script([][4]int{{0, 3, 0, 3}}), several, several)
				comesBack(t, script([][4]int{{0, 3, 0, 0}}), several, nil)
				comesBack(t, script([][4]int{{0, 0, 0, 3}}), nil, several)
				comesBack(t, script([][4]int{{0, 1, 0, 0}, {2, 1, 1, 2}}), several, several)
			}
		}
	}
}

// N4: each number of lines ahead of a change, and in it, on each side.
func TestRangesComeBack(t *testing.T) {
	for ahead := range 12 {
		for n := range 12 {
			for m := range 12 {
				if n+m == 0 {
					continue
				}
				a, b := numbered("a", ahead+n+1, true), numbered("b", 3+ahead+m+1, true)
				comesBack(t, script([][4]int{{ahead, n, ahead, m}}), a, b[3:])
				if ahead > 0 {
					comesBack(t, script([][4]int{{0, 0, 0, 3}, {ahead, n, ahead + 3, m}}), a, b)
				}
			}
		}
	}
}

// P11: a last line without an end is told otherwise than the one with it, on each side, and comes back as it was.
func TestEndsComeBack(t *testing.T) {
	whole, cut := []string{"a\n"}, []string{"a"}
	told := map[string]string{}
	for _, c := range []struct {
		s    [4]int
		a, b []string
	}{
		{[4]int{0, 1, 0, 1}, whole, whole},
		{[4]int{0, 1, 0, 1}, whole, cut},
		{[4]int{0, 1, 0, 1}, cut, whole},
		{[4]int{0, 1, 0, 1}, cut, cut},
		{[4]int{0, 1, 0, 0}, whole, nil},
		{[4]int{0, 1, 0, 0}, cut, nil},
		{[4]int{0, 0, 0, 1}, nil, whole},
		{[4]int{0, 0, 0, 1}, nil, cut},
	} {
		s := script([][4]int{c.s})
		comesBack(t, s, c.a, c.b)
		text, err := Print(s, c.a, c.b)
		isErr(t, fmt.Sprint(c), err, nil)
		if other, ok := told[text]; ok {
			t.Errorf("%v and %s are both told as %q", c, other, text)
		}
		told[text] = fmt.Sprint(c)
	}
}

// toldAgain fails where what is read of a text, told by Hunks, is not read as the same. It tells whether hunks can be read.
func toldAgain(t *testing.T, text string) bool {
	t.Helper()
	got := parse(text)
	if got.err != nil {
		return false
	}
	again, err := Hunks(got.l)
	isErr(t, text, err, nil)
	got.left = ""
	isRead(t, again, got)
	return len(got.l) > 0
}

// N4: what is read, in whatever form it was told, is told, and read as the same.
func TestWhatIsReadComesBack(t *testing.T) {
	n := 0
	check := func(text string) {
		if toldAgain(t, text) {
			n++
		}
	}
	for _, command := range []string{"1c1", "01,1c1,001", "2147483646c7", "5,5c2147483646"} {
		check(command + "\n< a\n\\\n---\n> b\n\\ x\nleft\n")
	}
	for _, command := range []string{"1d0", "01d000", "9,9d77", "2147483646d2147483647"} {
		check(command + "\n< a")
	}
	for _, command := range []string{"0a1", "000a01", "77a9,9", "2147483647a2147483646"} {
		check(command + "\n> ")
	}
	if n != 12 {
		t.Error("only", n, "texts can be read")
	}
	for _, rows := range smallTexts([]string{"< a\n", "> b\n", "---\n", "\\\n", "9,9d09\n", "20a30\n"}, 6) {
		for _, command := range []string{"1c1\n", "1,2c1,2\n", "1,3d4\n", "5a1,2\n"} {
			check(command + rows)
			check(strings.TrimSuffix(command+rows, "\n"))
		}
	}
	if n < 1000 {
		t.Error("only", n, "texts can be read")
	}
}
