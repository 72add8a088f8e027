package unified

import (
	"math"
	"selvage/api"
	"selvage/hunks"
	"strings"
	"testing"
)

// U1: what the header tells of names.
func TestPrintNames(t *testing.T) {
	for _, c := range []struct {
		name api.Name
		want string
	}{
		{named("a"), "a"},
		{named("a/b.c"), "a/b.c"},
		{named("/dev/null"), "/dev/null"},
		{named("a b"), `"a b"`},
		{named("a\tb"), `"a\tb"`},
		{named("a\nb"), `"a\nb"`},
		{named("\n"), `"\n"`},
		{named("a\"b\\"), `"a\"b\\"`},
		{named("\xc3\xa4"), `"\303\244"`},
		{named("\x01\x7f"), `"\001\177"`},
		{named(" "), `" "`},
		{api.Name{Path: "a", Stamp: "2020-01-01 00:00:00"}, "a\t2020-01-01 00:00:00"},
		{api.Name{Path: "a b", Stamp: "s"}, "\"a b\"\ts"},
		{api.Name{Path: "a", Stamp: " "}, "a\t "},
		{api.Name{Path: "a", Stamp: "\"\\\x01\x08\x0b\x0d\x7f\xff"}, "a\t\"\\\x01\x08\x0b\x0d\x7f\xff"},
	} {
		got, err := Print(c.name, named("x"), nil)
		isText(t, c.want+" as the old name", got, err, "--- "+c.want+"\n+++ x\n")
		got, err = Print(named("x"), c.name, nil)
		isText(t, c.want+" as the new name", got, err, "--- x\n+++ "+c.want+"\n")
	}
}

// U1: names that a header does not tell, on either side.
func TestPrintHeadErrors(t *testing.T) {
	fine := named("x")
	for _, bad := range []api.Name{
		{},
		{Stamp: "s"},
		{Path: "\x00"},
		{Path: "a\x00b"},
		{Path: "a\x00", Stamp: "s"},
		{Path: "a", Stamp: "\t"},
		{Path: "a", Stamp: "\n"},
		{Path: "a", Stamp: "\x00"},
		{Path: "a", Stamp: "s\tt"},
		{Path: "a", Stamp: "s\nt"},
		{Path: "a", Stamp: "s\x00t"},
		{Path: "a", Stamp: "s\t"},
		{Path: "a", Stamp: "s\n"},
		{Path: "a", Stamp: "s\x00"},
	} {
		for _, l := range [][]api.Hunk{nil, {hunk(1, 1, 0, 0, "-a\n")}} {
			for _, names := range [][2]api.Name{{bad, fine}, {fine, bad}, {bad, bad}} {
				got, err := Print(names[0], names[1], l)
				noText(t, shown(l...)+names[0].Path+names[1].Path, got, err, api.ErrHead)
			}
		}
	}
}

// U1: each byte in a Stamp and in a Path.
func TestPrintEachByte(t *testing.T) {
	for c := range 256 {
		for _, text := range []string{string([]byte{byte(c)}), string([]byte{'a', byte(c), 'b'})} {
			got, err := Print(named("x"), api.Name{Path: "y", Stamp: text}, nil)
			if c == 9 || c == 10 || c == 0 {
				noText(t, "a stamp", got, err, api.ErrHead)
			} else {
				isText(t, "a stamp", got, err, "--- x\n+++ y\t"+text+"\n")
			}
			got, err = Print(named(text), named("y"), nil)
			if c == 0 {
				noText(t, "a path", got, err, api.ErrHead)
			} else if err != nil || strings.Count(got, "\n") != 2 {
				t.Errorf("the path %q: %q, %v", text, got, err)
			}
		}
	}
}

// U1: a hunk's text.
func TestHunk(t *testing.T) {
	const most = api.MaxNumber
	for _, c := range []struct {
		h    api.Hunk
		want string
	}{
		// ranges
		{hunk(1, 1, 1, 1, "-a\n", "+b\n"), "@@ -1 +1 @@\n-a\n+b\n"},
		{hunk(0, 0, 1, 1, "+b\n"), "@@ -0,0 +1 @@\n+b\n"},
		{hunk(1, 1, 0, 0, "-b\n"), "@@ -1 +0,0 @@\n-b\n"},
		{hunk(7, 0, 8, 2, "+b\n", "+c\n"), "@@ -7,0 +8,2 @@\n+b\n+c\n"},
		{hunk(8, 2, 7, 0, "-b\n", "-c\n"), "@@ -8,2 +7,0 @@\n-b\n-c\n"},
		{hunk(10, 2, 20, 3, " a\n", "+b\n", " c\n"), "@@ -10,2 +20,3 @@\n a\n+b\n c\n"},
		{hunk(most, 0, most-1, 1, "+b\n"), "@@ -2147483647,0 +2147483646 @@\n+b\n"},
		// Head
		{headed(hunk(1, 1, 0, 0, "-a\n"), "int f()"), "@@ -1 +0,0 @@ int f()\n-a\n"},
		{headed(hunk(1, 1, 0, 0, "-a\n"), " "), "@@ -1 +0,0 @@  \n-a\n"},
		{headed(hunk(1, 1, 0, 0, "-a\n"), "@@ -1 +1 @@"), "@@ -1 +0,0 @@ @@ -1 +1 @@\n-a\n"},
		{headed(hunk(1, 1, 0, 0, "-a\n"), "\x00\t\r\xff"), "@@ -1 +0,0 @@ \x00\t\r\xff\n-a\n"},
		// rows
		{hunk(1, 2, 1, 3, "+x\n", "-\n", "+\n", " \n"), "@@ -1,2 +1,3 @@\n+x\n-\n+\n \n"},
		{hunk(1, 2, 1, 1, "-- a\n", " @@ -1 +1 @@\n"), "@@ -1,2 +1 @@\n-- a\n @@ -1 +1 @@\n"},
		{hunk(1, 1, 1, 1, "-\\ a\n", "+\\\n"), "@@ -1 +1 @@\n-\\ a\n+\\\n"},
		// rows without an end
		{hunk(1, 1, 0, 0, "-a"), "@@ -1 +0,0 @@\n-a\n" + noEnd},
		{hunk(0, 0, 1, 1, "+a"), "@@ -0,0 +1 @@\n+a\n" + noEnd},
		{hunk(1, 2, 1, 1, "-a\n", " b"), "@@ -1,2 +1 @@\n-a\n b\n" + noEnd},
		{hunk(1, 1, 1, 1, "-a", "+b\n"), "@@ -1 +1 @@\n-a\n" + noEnd + "+b\n"},
		{hunk(1, 1, 1, 1, "+b", "-a"), "@@ -1 +1 @@\n+b\n" + noEnd + "-a\n" + noEnd},
		{hunk(1, 1, 0, 0, "-\\"), "@@ -1 +0,0 @@\n-\\\n" + noEnd},
		{hunk(1, 1, 0, 0, "- "), "@@ -1 +0,0 @@\n- \n" + noEnd},
	} {
		got, err := Hunk(c.h)
		isText(t, shown(c.h), got, err, c.want)
		got, err = Print(named("a"), named("b"), []api.Hunk{c.h})
		isText(t, shown(c.h)+", with names", got, err, "--- a\n+++ b\n"+c.want)
	}
}

// badHunks are hunks that may not be.
func badHunks() []api.Hunk {
	return []api.Hunk{
		{},
		hunk(1, 0, 1, 0),
		hunk(1, 1, 1, 1, " a\n"),
		hunk(1, 1, 1, 1, "?a\n"),
		hunk(1, 1, 0, 0, "-a\n", "?b\n"),
		hunk(1, 1, 0, 0, "-"),
		hunk(1, 1, 0, 0, "-a\nb\n"),
		hunk(1, 2, 0, 0, "-a\n"),
		hunk(1, 1, 1, 1, "-a\n"),
		hunk(0, 1, 0, 0, "-a\n"),
		hunk(-1, 0, 1, 1, "+a\n"),
		hunk(1, 1, api.MaxNumber, 1, "-a\n", "+b\n"),
		hunk(math.MaxInt, 1, 1, 1, "-a\n", "+b\n"),
		hunk(math.MinInt, 1, 1, 1, "-a\n", "+b\n"),
		hunk(1, math.MinInt, 1, 1, "+b\n"),
		hunk(1, 2, 1, 1, "-a", " b\n"),
		headed(hunk(1, 1, 0, 0, "-a\n"), "f\n"),
		headed(hunk(1, 1, 0, 0, "-a\n"), strings.Repeat("x", api.MaxPath+1)),
		{A: 1, N: 1, Rows: []api.Row{{Kind: math.MaxInt, Text: "a\n"}}},
		{A: 1, N: 1, Rows: []api.Row{{Kind: math.MinInt, Text: "a\n"}}},
	}
}

// U1: hunks that may not be, alone and among others.
func TestHunkErrors(t *testing.T) {
	fine := hunk(9, 1, 9, 1, "-a\n", "+b\n")
	for _, bad := range badHunks() {
		got, err := Hunk(bad)
		noText(t, shown(bad), got, err, api.ErrHunk)
		for _, l := range [][]api.Hunk{{bad}, {fine, bad}, {bad, fine}, {fine, fine, bad}, {bad, fine, fine}} {
			got, err := Print(named("a"), named("b"), l)
			noText(t, shown(l...), got, err, api.ErrHunk)
		}
	}
}

// U1: ErrHead is told ahead of ErrHunk, and this ahead of ErrOrder, wherever they stand.
func TestPrintErrorsInTheirOrder(t *testing.T) {
	fine, bad := hunk(9, 1, 9, 1, "-a\n", "+b\n"), hunk(1, 1, 1, 1, " a\n")
	for _, c := range []struct {
		name api.Name
		l    []api.Hunk
		want error
	}{
		{named(""), []api.Hunk{fine, fine, bad}, api.ErrHead},
		{named(""), []api.Hunk{bad}, api.ErrHead},
		{named(""), []api.Hunk{fine, fine}, api.ErrHead},
		{api.Name{Path: "a", Stamp: "\t"}, []api.Hunk{fine, fine, bad}, api.ErrHead},
		{named("a"), []api.Hunk{fine, fine, bad}, api.ErrHunk},
		{named("a"), []api.Hunk{bad, fine, fine}, api.ErrHunk},
		{named("a"), []api.Hunk{fine, fine}, api.ErrOrder},
	} {
		got, err := Print(c.name, named("b"), c.l)
		noText(t, shown(c.l...), got, err, c.want)
		got, err = Print(named("b"), c.name, c.l)
		noText(t, shown(c.l...), got, err, c.want)
	}
}

// U1: how hunks may stand.
func TestPrintOrder(t *testing.T) {
	const most = api.MaxNumber
	first := hunk(2, 2, 4, 3, " a\n", "+b\n", " c\n") // the old lines 2 and 3, the new ones 4 to 6
	added := hunk(5, 0, 7, 1, "+x\n")                 // behind the old line 5, the new line 7
	taken := hunk(7, 1, 5, 0, "-x\n")                 // the old line 7, behind the new line 5
	for _, c := range []struct {
		name    string
		l       []api.Hunk
		inOrder bool
	}{
		{"none", nil, true},
		{"one", []api.Hunk{first}, true},
		{"the first one, its places far apart", []api.Hunk{hunk(1, 1, 77, 1, "-a\n", "+b\n")}, true},
		{"right behind", []api.Hunk{first, hunk(4, 1, 7, 1, "-a\n", "+b\n")}, true},
		{"far behind, by other numbers of lines", []api.Hunk{first, hunk(40, 1, 9, 1, "-a\n", "+b\n")}, true},
		{"the same again", []api.Hunk{first, first}, false},
		{"old one line into it", []api.Hunk{first, hunk(3, 1, 7, 1, "-a\n", "+b\n")}, false},
		{"new one line into it", []api.Hunk{first, hunk(4, 1, 6, 1, "-a\n", "+b\n")}, false},
		{"old ahead of it", []api.Hunk{first, hunk(1, 1, 9, 1, "-a\n", "+b\n")}, false},
		{"new ahead of it", []api.Hunk{first, hunk(9, 1, 1, 1, "-a\n", "+b\n")}, false},
		// the second one without lines of a side
		{"N 0, right behind", []api.Hunk{first, hunk(3, 0, 7, 1, "+b\n")}, true},
		{"N 0, one line into it", []api.Hunk{first, hunk(2, 0, 7, 1, "+b\n")}, false},
		{"N 0, the new one into it", []api.Hunk{first, hunk(3, 0, 6, 1, "+b\n")}, false},
		{"M 0, right behind", []api.Hunk{first, hunk(4, 1, 6, 0, "-b\n")}, true},
		{"M 0, one line into it", []api.Hunk{first, hunk(4, 1, 5, 0, "-b\n")}, false},
		{"M 0, the old one into it", []api.Hunk{first, hunk(3, 1, 6, 0, "-b\n")}, false},
		// the first one without lines of a side
		{"behind N 0", []api.Hunk{added, hunk(6, 1, 8, 1, "-a\n", "+b\n")}, true},
		{"behind N 0, at its line", []api.Hunk{added, hunk(5, 1, 8, 1, "-a\n", "+b\n")}, false},
		{"behind N 0, at its new line", []api.Hunk{added, hunk(6, 1, 7, 1, "-a\n", "+b\n")}, false},
		{"N 0 behind N 0", []api.Hunk{added, hunk(5, 0, 8, 1, "+b\n")}, true},
		{"N 0 behind N 0, one ahead", []api.Hunk{added, hunk(4, 0, 8, 1, "+b\n")}, false},
		{"N 0 behind N 0, at its new line", []api.Hunk{added, added}, false},
		{"behind M 0", []api.Hunk{taken, hunk(8, 1, 6, 1, "-a\n", "+b\n")}, true},
		{"behind M 0, at its line", []api.Hunk{taken, hunk(8, 1, 5, 1, "-a\n", "+b\n")}, false},
		{"behind M 0, at its old line", []api.Hunk{taken, hunk(7, 1, 6, 1, "-a\n", "+b\n")}, false},
		{"M 0 behind M 0", []api.Hunk{taken, hunk(8, 1, 5, 0, "-b\n")}, true},
		{"M 0 behind M 0, one ahead", []api.Hunk{taken, hunk(8, 1, 4, 0, "-b\n")}, false},
		{"M 0 behind M 0, at its old line", []api.Hunk{taken, taken}, false},
		{"from nothing, twice", []api.Hunk{hunk(0, 0, 1, 1, "+a\n"), hunk(0, 0, 2, 1, "+b\n")}, true},
		{"N 0 at the limit, twice", []api.Hunk{hunk(most, 0, 1, 1, "+a\n"), hunk(most, 0, 2, 1, "+b\n")}, true},
		{"behind N 0 at the limit", []api.Hunk{hunk(most, 0, 1, 1, "+a\n"), hunk(most-1, 1, 2, 1, "-a\n", "+b\n")}, false},
		// three
		{"three", []api.Hunk{first, hunk(4, 1, 7, 1, "-a\n", "+b\n"), hunk(5, 1, 8, 1, "-a\n", "+b\n")}, true},
		{"three, the third into the second", []api.Hunk{first, hunk(4, 1, 7, 1, "-a\n", "+b\n"), hunk(4, 1, 8, 1, "-a\n", "+b\n")}, false},
		// a line without an end is no matter of this order
		{"behind lines without an end", []api.Hunk{hunk(1, 1, 1, 1, "-a", "+b"), hunk(2, 1, 2, 1, "-a\n", "+b\n")}, true},
	} {
		got, err := Print(named("a"), named("b"), c.l)
		if c.inOrder {
			isText(t, c.name, got, err, "--- a\n+++ b\n"+together(t, c.l))
		} else {
			noText(t, c.name, got, err, api.ErrOrder)
		}
		if err := orderOf(c.l); (err == nil) != c.inOrder {
			t.Error(c.name, "is told otherwise by the words:", err)
		}
	}
}

// together are the texts of hunks, one behind the other.
func together(t *testing.T, l []api.Hunk) string {
	t.Helper()
	var b strings.Builder
	for _, h := range l {
		text, err := Hunk(h)
		isErr(t, shown(h), err, nil)
		b.WriteString(text)
	}
	return b.String()
}

// orderOf tells by the chapter's words what is wrong with hunks.
func orderOf(l []api.Hunk) error {
	for _, h := range l {
		if hunks.Valid(h) != nil {
			return api.ErrHunk
		}
	}
	first := func(line, count int) int {
		if count == 0 {
			line++
		}
		return line
	}
	for i := 1; i < len(l); i++ {
		h, ahead := l[i], l[i-1]
		if !(first(h.A, h.N) > first(ahead.A, ahead.N)+ahead.N-1) || !(first(h.B, h.M) > first(ahead.B, ahead.M)+ahead.M-1) {
			return api.ErrOrder
		}
	}
	return nil
}

// U1: all pairs of small hunks at all small places.
func TestPrintOrderOfAllSmall(t *testing.T) {
	var some []api.Hunk
	for _, rows := range [][]string{{"-a\n"}, {"+a\n"}, {"-a\n", "+b"}, {" a\n", "+b\n"}, {"-a\n", "-b\n"}, {" a\n"}} {
		for code := range 16 {
			h := hunk(code%4, 0, code/4, 0, rows...)
			h.N, h.M = counts(h.Rows)
			some = append(some, h)
		}
	}
	for _, first := range some {
		for _, second := range some {
			l := []api.Hunk{first, second}
			got, err := Print(named("a"), named("b"), l)
			if want := orderOf(l); want != nil {
				noText(t, shown(l...), got, err, want)
			} else {
				isText(t, shown(l...), got, err, "--- a\n+++ b\n"+together(t, l))
			}
		}
	}
}
