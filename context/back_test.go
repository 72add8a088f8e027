package context

import (
	"fmt"
	"selvage/api"
	"selvage/edits"
	"selvage/hunks"
	"selvage/lines"
	"selvage/path"
	"selvage/unified"
	"strings"
	"testing"
)

// comesBack fails where hunks, printed with names, are not read again as they were, the old rows ahead of the new ones in each run, with nothing left; or where unified.Parse reads other ones from their unified diff.
func comesBack(t *testing.T, old, fresh api.Name, l []api.Hunk) {
	t.Helper()
	text, err := Print(old, fresh, l)
	if err != nil {
		t.Errorf("Print of %q %q %s: %v", old, fresh, shown(l...), err)
		return
	}
	want := answer{old: old, fresh: fresh, l: oldAhead(l)}
	if got := parse(text); !got.same(want) {
		t.Errorf("%.300v, printed as %.300q, is read as %.300v", want, text, got)
	}
	// What is put behind the text is left, if it can't belong to it.
	behind := want
	behind.left = "diff\n" + header
	if got := parse(text + behind.left); !got.same(behind) {
		t.Errorf("%.300q and something behind it is read as %.300v", text, got)
	}
	other, err := unified.Print(old, fresh, want.l)
	isErr(t, "unified.Print", err, nil)
	var got answer
	got.old, got.fresh, got.l, got.left, got.line, got.err = unified.Parse(other)
	if !got.same(want) {
		t.Errorf("%.300v, printed as %.300q, is read by unified.Parse as %.300v", want, other, got)
	}
}

// allSmall are all hunks of up to most rows that may be, at some places.
func allSmall(most int, texts ...string) []api.Hunk {
	var all []api.Hunk
	for _, rows := range someRows(most, texts...) {
		for _, at := range [][2]int{{0, 0}, {1, 1}, {7, 12}} {
			h := api.Hunk{A: at[0], B: at[1], Rows: rows}
			h.N, h.M = counts(rows)
			if hunks.Valid(h) == nil {
				all = append(all, h)
			}
		}
	}
	return all
}

// CX3, P13, P11: all small hunks.
func TestSmallHunksComeBack(t *testing.T) {
	n := 0
	for _, h := range append(append(allSmall(4, "a\n", "b"), allSmall(3, "\n", "\\", "--- 1 ----\n", fifteen+"\n")...), allSmall(6, "a\n")...) {
		comesBack(t, named("a/x"), named("b/x"), []api.Hunk{h})
		comesBack(t, api.Name{Path: "a x", Stamp: "s"}, named("/dev/null"), []api.Hunk{headed(h, "* f")})
		n++
	}
	if n < 3000 {
		t.Error("only", n, "hunks")
	}
}

// CX3, P13: several hunks that are in order.
func TestSeveralHunksComeBack(t *testing.T) {
	var some []api.Hunk
	for _, rows := range someRows(2, "a\n", "b") {
		for code := range 9 {
			h := api.Hunk{A: code%3 + 1, B: code/3 + 1, Rows: rows}
			h.N, h.M = counts(rows)
			if hunks.Valid(h) == nil {
				some = append(some, h)
			}
		}
	}
	n := 0
	for _, first := range some {
		for _, second := range some {
			l := []api.Hunk{first, headed(second, "f")}
			if _, err := unified.Print(named("a"), named("b"), l); err != nil {
				continue
			}
			comesBack(t, named("a"), named("b"), l)
			third := second
			third.A, third.B = third.A+9, third.B+9
			comesBack(t, named("a"), named("b"), append(l, third))
			n++
		}
	}
	if n < 1000 {
		t.Error("only", n, "pairs")
	}
}

// CX3: headings of each byte but 10, and of many bytes.
func TestHeadsComeBack(t *testing.T) {
	for c := range 256 {
		if c == 10 {
			continue
		}
		b := string([]byte{byte(c)})
		for _, head := range []string{b, b + "f", "f" + b, b + b} {
			comesBack(t, named("a"), named("b"), []api.Hunk{headed(smallHunk(), head)})
		}
	}
	for _, head := range []string{" ", "*", " * ", fifteen, "\\", "*** 1 ****", strings.Repeat("f", api.MaxPath)} {
		comesBack(t, named("a"), named("b"), []api.Hunk{headed(smallHunk(), head)})
	}
}

// CX3: lines of each byte but 10, with an end and without.
func TestLinesComeBack(t *testing.T) {
	for c := range 256 {
		if c == 10 {
			continue
		}
		b := string([]byte{byte(c)})
		for _, line := range []string{b, b + "x", "x" + b} {
			comesBack(t, named("a"), named("b"), []api.Hunk{hunk(1, 2, 1, 2, " "+line+"\n", "-"+line+"\n", "+"+line)})
			comesBack(t, named("a"), named("b"), []api.Hunk{hunk(1, 2, 1, 2, "-"+line+"\n", "+"+line+"\n", " "+line)})
			comesBack(t, named("a"), named("b"), []api.Hunk{hunk(1, 2, 1, 1, "-"+line+"\n", " "+line)})
			comesBack(t, named("a"), named("b"), []api.Hunk{hunk(1, 1, 1, 2, "+"+line+"\n", " "+line)})
		}
	}
}

// CX3: ranges at the limits, and of each count.
func TestRangesComeBack(t *testing.T) {
	const most = api.MaxNumber
	for n := range 13 {
		for m := range 13 {
			if n+m == 0 {
				continue
			}
			all := append(rows("-a\n", n), rows("+b\n", m)...)
			for _, at := range [][2]int{{1, 1}, {9, 99}, {most - n, most - m}, {1, most - m}} {
				comesBack(t, named("a"), named("b"), []api.Hunk{hunk(at[0], n, at[1], m, all...)})
			}
		}
	}
}

// P10, CX3: every name of a file of one byte or two, and longer ones; stamps of each byte that may be.
func TestNamesComeBack(t *testing.T) {
	l := []api.Hunk{smallHunk()}
	n := 0
	check := func(name string) {
		if path.Name(name) == nil {
			n++
			comesBack(t, named(name), named("a/"+name), l)
			comesBack(t, api.Name{Path: "/" + name, Stamp: "s"}, api.Name{Path: name, Stamp: " t\""}, l)
		}
	}
	for c := range 256 {
		check(string([]byte{byte(c)}))
		for d := range 256 {
			check(string([]byte{byte(c), byte(d)}))
		}
		stamp := string([]byte{byte(c)})
		if c != 9 && c != 10 && c != 0 {
			comesBack(t, api.Name{Path: "a", Stamp: stamp}, api.Name{Path: "b", Stamp: "x" + stamp + "y" + stamp}, l)
		}
	}
	for _, name := range []string{"*** a", "--- b", "a\n--- b", "a\tb", "\"a\"", "\"", "\\", "\\n", "a b ", " ", "1,2 ****", "\u00e4\u2028", fifteen, strings.Repeat("x", api.MaxName), strings.Repeat("\xff", api.MaxName), strings.Repeat("\"\\", 100), ".selvage-1"} {
		check(name)
	}
	if n < 254*254 {
		t.Error("only", n, "names")
	}
	// No name of a file, but a Path all the same.
	for _, name := range []string{"/", "..", "/dev/null", "a//b", "../../x", strings.Repeat("a/", api.MaxPath)} {
		comesBack(t, named(name), named(name), l)
	}
}

// P13, P11, CX3: the hunks of all small scripts of texts with and without a last end, with each context, are read just as they were built, and tell the script.
func TestBuiltHunksComeBack(t *testing.T) {
	n := 0
	for _, a := range smallTexts([]string{"1\n", "\n", "2"}, 3) {
		for _, b := range smallTexts([]string{"1\n", "\n", "2"}, 3) {
			old, fresh := lines.Split(a), lines.Split(b)
			for code := range 1 << min(len(old), len(fresh)) {
				s := staying(old, fresh, code)
				for context := range 3 {
					l, err := hunks.Build(s, old, fresh, context)
					if err != nil || len(l) == 0 {
						continue
					}
					n++
					comesBack(t, named("a"), named("b"), l)
					text, _ := Print(named("a"), named("b"), l)
					isRead(t, text, read("", l...))
					_, _, again, _, _, _ := Parse(text)
					back, err := hunks.Script(again, len(old), len(fresh))
					want, _ := edits.Normal(s, len(old), len(fresh))
					if err != nil || fmt.Sprint(back) != fmt.Sprint(want) {
						t.Errorf("%q: %v, %v, not %v", text, back, err, want)
					}
				}
			}
		}
	}
	if n < 1000 {
		t.Error("only", n, "scripts")
	}
}

// staying is the script by which the lines at the places whose bits are set stay, where they are the same.
func staying(a, b []string, code int) []api.Change {
	var s []api.Change
	done := 0
	change := func(to, endA, endB int) {
		if endA > done || endB > done {
			s = append(s, api.Change{A: done, N: endA - done, B: done, M: endB - done})
		}
		done = to
	}
	for i := range min(len(a), len(b)) {
		if code>>i&1 > 0 && a[i] == b[i] {
			change(i+1, i, i)
		}
	}
	change(0, len(a), len(b))
	return s
}

// P11: a last line without an end is told otherwise than the one with it, on each side, and comes back as it was.
func TestEndsComeBack(t *testing.T) {
	texts := map[string][]api.Hunk{}
	for _, l := range [][]api.Hunk{
		{hunk(1, 1, 1, 1, "-a\n", "+a")},
		{hunk(1, 1, 1, 1, "-a", "+a\n")},
		{hunk(1, 1, 1, 1, "-a", "+a")},
		{hunk(1, 1, 1, 1, "-a\n", "+a\n")},
		{hunk(1, 2, 1, 1, "-b\n", " a")},
		{hunk(1, 2, 1, 1, "-b\n", " a\n")},
		{hunk(1, 1, 1, 2, "+b\n", " a")},
		{hunk(1, 1, 1, 2, "+b\n", " a\n")},
		{hunk(1, 2, 1, 2, "-b\n", "+c\n", " a")},
		{hunk(1, 2, 1, 2, "-b\n", "+c\n", " a\n")},
	} {
		comesBack(t, named("a"), named("b"), l)
		text, err := Print(named("a"), named("b"), l)
		isErr(t, shown(l...), err, nil)
		if other, ok := texts[text]; ok {
			t.Errorf("%s and %s are both told as %q", shown(l...), shown(other...), text)
		}
		texts[text] = l
	}
}

// printedAgain fails where what is read of a text, printed, is not read as the same. It tells whether the text can be read, and its names can be printed.
func printedAgain(t *testing.T, text string) bool {
	t.Helper()
	got := parse(text)
	if got.err != nil {
		return false
	}
	again, err := Print(got.old, got.fresh, got.l)
	if err == api.ErrHead {
		return false
	}
	isErr(t, text, err, nil)
	got.left = ""
	if back := parse(again); !back.same(got) {
		t.Errorf("%q is printed as %q, and read as %v, not as %v", text, again, back, got)
	}
	return true
}

// CX3: what is read, in whatever form it was told, is printed, and read as the same.
func TestWhatIsReadComesBack(t *testing.T) {
	n := 0
	check := func(text string) {
		if printedAgain(t, text) {
			n++
		}
	}
	for _, name := range []string{"a", "a b", `"a"`, `"\141\t"`, "\xff", "a\t", "a\ts", "\"a\"\ts", "a\r", "x\"y", "a\\"} {
		check("*** " + name + "\n--- b\n" + small)
		check("*** a\n--- " + name + "\n" + small)
	}
	for _, first := range []string{fifteen, fifteen + " ", fifteen + "  ", fifteen + " f"} {
		for _, place := range []string{"1", "1,1", "0001", "01,00001"} {
			check(header + first + "\n*** " + place + " ****\n! a\n\\\n--- " + place + " ----\n! b\nleft\n")
		}
	}
	if n != 2*11+4*4 {
		t.Error("only", n, "texts can be read")
	}
	for _, old := range smallTexts([]string{"  c\n", "- a\n", "! d\n", "\\\n"}, 4) {
		for _, fresh := range smallTexts([]string{"  c\n", "+ b\n", "! d\n", "\\\n"}, 4) {
			for _, places := range [][2]string{{"1,2", "1,2"}, {"1", "1,3"}, {"1,3", "1"}, {"1,2", "2"}} {
				check(header + parts(places[0], old, places[1], fresh))
				check(strings.TrimSuffix(header+parts(places[0], old, places[1], fresh), "\n"))
			}
		}
	}
	if n < 500 {
		t.Error("only", n, "texts can be read")
	}
}
