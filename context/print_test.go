package context

import (
	"fmt"
	"math"
	"selvage/api"
	"selvage/hunks"
	"selvage/unified"
	"strings"
	"testing"
)

// CX1: what the header tells of names.
func TestPrintNames(t *testing.T) {
	for _, c := range []struct {
		name api.Name
		want string
	}{
		{named("a"), "a"},
		{named("a/b.c"), "a/b.c"},
		{named("/dev/null"), "/dev/null"},
		{named("a b"), `"a b"`},
		{named("a\tb"), `"a\tb"`},
		{named("a\nb"), `"a\nb"`},
		{named("\n"), `"\n"`},
		{named("a\"b\\"), `"a\"b\\"`},
		{named("\xc3\xa4"), `"\303\244"`},
		{named("\x01\x7f"), `"\001\177"`},
		{named(" "), `" "`},
		{named("***"), "***"},
		{api.Name{Path: "a", Stamp: "2020-01-01 00:00:00"}, "a\t2020-01-01 00:00:00"},
		{api.Name{Path: "a b", Stamp: "s"}, "\"a b\"\ts"},
		{api.Name{Path: "a", Stamp: " "}, "a\t "},
		{api.Name{Path: "a", Stamp: "\"\\\x01\x08\x0b\x0d\x7f\xff"}, "a\t\"\\\x01\x08\x0b\x0d\x7f\xff"},
	} {
		got, err := Print(c.name, named("x"), nil)
		isText(t, c.want+" as the old name", got, err, "*** "+c.want+"\n--- x\n")
		got, err = Print(named("x"), c.name, nil)
		isText(t, c.want+" as the new name", got, err, "*** x\n--- "+c.want+"\n")
		got, err = Print(c.name, c.name, []api.Hunk{smallHunk()})
		isText(t, c.want+" as both names", got, err, "*** "+c.want+"\n--- "+c.want+"\n"+small)
	}
}

// CX1: names that a header does not tell, on either side.
func TestPrintHeadErrors(t *testing.T) {
	fine := named("x")
	for _, bad := range []api.Name{
		{},
		{Stamp: "s"},
		{Path: "\x00"},
		{Path: "a\x00b"},
		{Path: "a\x00", Stamp: "s"},
		{Path: "a", Stamp: "\t"},
		{Path: "a", Stamp: "\n"},
		{Path: "a", Stamp: "\x00"},
		{Path: "a", Stamp: "s\tt"},
		{Path: "a", Stamp: "s\nt"},
		{Path: "a", Stamp: "s\x00"},
	} {
		for _, l := range [][]api.Hunk{nil, {smallHunk()}} {
			for _, names := range [][2]api.Name{{bad, fine}, {fine, bad}, {bad, bad}} {
				got, err := Print(names[0], names[1], l)
				noText(t, fmt.Sprintf("%q", names), got, err, api.ErrHead)
			}
		}
	}
}

// CX1: each byte in a Stamp and in a Path.
func TestPrintEachByte(t *testing.T) {
	for c := range 256 {
		for _, text := range []string{string([]byte{byte(c)}), string([]byte{'a', byte(c), 'b'})} {
			got, err := Print(named("x"), api.Name{Path: "y", Stamp: text}, nil)
			if c == 9 || c == 10 || c == 0 {
				noText(t, "a stamp", got, err, api.ErrHead)
			} else {
				isText(t, "a stamp", got, err, "*** x\n--- y\t"+text+"\n")
			}
			got, err = Print(named(text), named("y"), nil)
			if c == 0 {
				noText(t, "a path", got, err, api.ErrHead)
			} else if err != nil || strings.Count(got, "\n") != 2 {
				t.Errorf("the path %q: %q, %v", text, got, err)
			}
		}
	}
}

// CX1: a hunk's text.
func TestHunk(t *testing.T) {
	const most = api.MaxNumber
	for _, c := range []struct {
		h    api.Hunk
		want []string // behind the first line
	}{
		// counts, without RowOld or without RowNew
		{hunk(0, 0, 1, 1, "+b\n"), []string{"*** 0 ****", "--- 1 ----", "+ b"}},
		{hunk(1, 1, 0, 0, "-b\n"), []string{"*** 1 ****", "- b", "--- 0 ----"}},
		{hunk(7, 0, 8, 2, "+b\n", "+c\n"), []string{"*** 7 ****", "--- 8,9 ----", "+ b", "+ c"}},
		{hunk(8, 2, 7, 0, "-b\n", "-c\n"), []string{"*** 8,9 ****", "- b", "- c", "--- 7 ----"}},
		{hunk(9, 3, 8, 0, "-b\n", "-c\n", "-d\n"), []string{"*** 9,11 ****", "- b", "- c", "- d", "--- 8 ----"}},
		{hunk(10, 2, 20, 3, " a\n", "+b\n", " c\n"), []string{"*** 10,11 ****", "--- 20,22 ----", "  a", "+ b", "  c"}},
		{hunk(10, 3, 20, 2, " a\n", "-b\n", " c\n"), []string{"*** 10,12 ****", "  a", "- b", "  c", "--- 20,21 ----"}},
		{hunk(1, 2, 1, 1, " a\n", "-b\n"), []string{"*** 1,2 ****", "  a", "- b", "--- 1 ----"}},
		{hunk(1, 1, 1, 2, "+b\n", " a\n"), []string{"*** 1 ****", "--- 1,2 ----", "+ b", "  a"}},
		{hunk(most, 0, most-1, 1, "+b\n"), []string{"*** 2147483647 ****", "--- 2147483646 ----", "+ b"}},
		{hunk(most-2, 2, most, 0, "-a\n", "-b\n"), []string{"*** 2147483645,2147483646 ****", "- a", "- b", "--- 2147483647 ----"}},
		// runs of both kinds
		{hunk(1, 1, 1, 1, "-a\n", "+b\n"), []string{"*** 1 ****", "! a", "--- 1 ----", "! b"}},
		{hunk(1, 2, 1, 3, "-a\n", "-b\n", "+c\n", "+d\n", "+e\n"), []string{"*** 1,2 ****", "! a", "! b", "--- 1,3 ----", "! c", "! d", "! e"}},
		// a new row ahead of an old one
		{hunk(1, 1, 1, 1, "+b\n", "-a\n"), []string{"*** 1 ****", "! a", "--- 1 ----", "! b"}},
		{hunk(1, 2, 1, 2, "+1\n", "-2\n", "+3\n", "-4\n"), []string{"*** 1,2 ****", "! 2", "! 4", "--- 1,2 ----", "! 1", "! 3"}},
		// runs of each kind, one behind the other
		{hunk(1, 5, 1, 6, "-1\n", " 2\n", "+3\n", " 4\n", "-5\n", "+6\n", " 7\n", "+8\n"), []string{"*** 1,5 ****", "- 1", "  2", "  4", "! 5", "  7", "--- 1,6 ----", "  2", "+ 3", "  4", "! 6", "  7", "+ 8"}},
		{hunk(1, 2, 1, 2, "-1\n", " 2\n", "+3\n"), []string{"*** 1,2 ****", "- 1", "  2", "--- 1,2 ----", "  2", "+ 3"}},
		{hunk(1, 3, 1, 2, "-1\n", "+2\n", " 3\n", "-4\n"), []string{"*** 1,3 ****", "! 1", "  3", "- 4", "--- 1,2 ----", "! 2", "  3"}},
		// lines that look like others
		{hunk(1, 2, 1, 3, "+\n", "-\n", "+ \n", " \n"), []string{"*** 1,2 ****", "! ", "  ", "--- 1,3 ----", "! ", "!  ", "  "}},
		{hunk(1, 1, 1, 1, "-"+fifteen+"\n", "+--- 1 ----\n"), []string{"*** 1 ****", "! " + fifteen, "--- 1 ----", "! --- 1 ----"}},
		{hunk(1, 1, 0, 0, "-\\ a\n"), []string{"*** 1 ****", "- \\ a", "--- 0 ----"}},
		// rows without an end
		{hunk(1, 1, 0, 0, "-a"), []string{"*** 1 ****", "- a", "\\ No newline at end of file", "--- 0 ----"}},
		{hunk(0, 0, 1, 1, "+a"), []string{"*** 0 ****", "--- 1 ----", "+ a", "\\ No newline at end of file"}},
		{hunk(1, 2, 1, 1, "-a\n", " b"), []string{"*** 1,2 ****", "- a", "  b", "\\ No newline at end of file", "--- 1 ----"}},
		{hunk(1, 1, 1, 2, "+a\n", " b"), []string{"*** 1 ****", "--- 1,2 ----", "+ a", "  b", "\\ No newline at end of file"}},
		{hunk(1, 2, 1, 2, "-a\n", "+c\n", " b"), []string{"*** 1,2 ****", "! a", "  b", "\\ No newline at end of file", "--- 1,2 ----", "! c", "  b", "\\ No newline at end of file"}},
		{hunk(1, 1, 1, 1, "-a", "+b\n"), []string{"*** 1 ****", "! a", "\\ No newline at end of file", "--- 1 ----", "! b"}},
		{hunk(1, 1, 1, 1, "-a\n", "+b"), []string{"*** 1 ****", "! a", "--- 1 ----", "! b", "\\ No newline at end of file"}},
		{hunk(1, 1, 1, 1, "+b", "-a"), []string{"*** 1 ****", "! a", "\\ No newline at end of file", "--- 1 ----", "! b", "\\ No newline at end of file"}},
	} {
		for _, head := range [][2]string{{"", ""}, {"int f()", " int f()"}, {" ", "  "}, {"*", " *"}, {"\x00\t\r\xff", " \x00\t\r\xff"}} {
			h := headed(c.h, head[0])
			want := fifteen + head[1] + "\n" + strings.Join(c.want, "\n") + "\n"
			got, err := Hunk(h)
			isText(t, shown(h), got, err, want)
			got, err = Print(named("a"), named("b"), []api.Hunk{h})
			isText(t, shown(h)+", with names", got, err, "*** a\n--- b\n"+want)
		}
	}
}

// badHunks are hunks that may not be, one with rows of neither RowOld nor RowNew among them.
func badHunks() []api.Hunk {
	return []api.Hunk{
		{},
		hunk(1, 0, 1, 0),
		hunk(1, 1, 1, 1, " a\n"),
		hunk(1, 1, 1, 1, "?a\n"),
		hunk(1, 1, 0, 0, "-a\n", "?b\n"),
		hunk(1, 1, 0, 0, "-"),
		hunk(1, 1, 0, 0, "-a\nb\n"),
		hunk(1, 2, 0, 0, "-a\n"),
		hunk(1, 1, 1, 1, "-a\n"),
		hunk(0, 1, 0, 0, "-a\n"),
		hunk(-1, 0, 1, 1, "+a\n"),
		hunk(1, 1, api.MaxNumber, 1, "-a\n", "+b\n"),
		hunk(math.MaxInt, 1, 1, 1, "-a\n", "+b\n"),
		hunk(math.MinInt, 1, 1, 1, "-a\n", "+b\n"),
		hunk(1, math.MinInt, 1, 1, "+b\n"),
		hunk(1, 2, 1, 1, "-a", " b\n"),
		headed(smallHunk(), "f\n"),
		headed(smallHunk(), strings.Repeat("x", api.MaxPath+1)),
		{A: 1, N: 1, Rows: []api.Row{{Kind: math.MaxInt, Text: "a\n"}}},
		{A: 1, N: 1, Rows: []api.Row{{Kind: math.MinInt, Text: "a\n"}}},
	}
}

// CX1: hunks that may not be, alone and among others.
func TestHunkErrors(t *testing.T) {
	fine := hunk(9, 1, 9, 1, "-a\n", "+b\n")
	for _, bad := range badHunks() {
		got, err := Hunk(bad)
		noText(t, shown(bad), got, err, api.ErrHunk)
		for _, l := range [][]api.Hunk{{bad}, {fine, bad}, {bad, fine}, {fine, fine, bad}, {bad, fine, fine}} {
			got, err := Print(named("a"), named("b"), l)
			noText(t, shown(l...), got, err, api.ErrHunk)
		}
	}
}

// CX1: ErrHead is told ahead of ErrHunk, and this ahead of ErrOrder, wherever they stand.
func TestPrintErrorsInTheirOrder(t *testing.T) {
	fine, bad := hunk(9, 1, 9, 1, "-a\n", "+b\n"), hunk(1, 1, 1, 1, " a\n")
	for _, c := range []struct {
		name api.Name
		l    []api.Hunk
		want error
	}{
		{named(""), []api.Hunk{fine, fine, bad}, api.ErrHead},
		{named(""), []api.Hunk{bad}, api.ErrHead},
		{named(""), []api.Hunk{fine, fine}, api.ErrHead},
		{api.Name{Path: "a", Stamp: "\t"}, []api.Hunk{fine, fine, bad}, api.ErrHead},
		{named("a"), []api.Hunk{fine, fine, bad}, api.ErrHunk},
		{named("a"), []api.Hunk{bad, fine, fine}, api.ErrHunk},
		{named("a"), []api.Hunk{fine, fine}, api.ErrOrder},
	} {
		got, err := Print(c.name, named("b"), c.l)
		noText(t, shown(c.l...), got, err, c.want)
		got, err = Print(named("b"), c.name, c.l)
		noText(t, shown(c.l...), got, err, c.want)
	}
}

// CX1: a hunk that begins ahead of the end of the one ahead of it, on either side.
func TestPrintOrder(t *testing.T) {
	first := hunk(2, 2, 4, 3, " a\n", "+b\n", " c\n") // the old lines 2 and 3, the new ones 4 to 6
	for _, c := range []struct {
		second  api.Hunk
		inOrder bool
	}{
		{hunk(4, 1, 7, 1, "-a\n", "+b\n"), true},
		{hunk(40, 1, 9, 1, "-a\n", "+b\n"), true},
		{first, false},
		{hunk(3, 1, 7, 1, "-a\n", "+b\n"), false},
		{hunk(4, 1, 6, 1, "-a\n", "+b\n"), false},
		{hunk(1, 1, 9, 1, "-a\n", "+b\n"), false},
		{hunk(3, 0, 7, 1, "+b\n"), true},
		{hunk(2, 0, 7, 1, "+b\n"), false},
		{hunk(4, 1, 6, 0, "-b\n"), true},
		{hunk(4, 1, 5, 0, "-b\n"), false},
	} {
		l := []api.Hunk{first, c.second}
		got, err := Print(named("a"), named("b"), l)
		if c.inOrder {
			isText(t, shown(l...), got, err, "*** a\n--- b\n"+textsOf(t, l))
		} else {
			noText(t, shown(l...), got, err, api.ErrOrder)
		}
	}
}

// CX1: Print has the errors of unified.Print, and else the hunks' texts; over all pairs of small hunks at all small places.
func TestPrintOfAllPairs(t *testing.T) {
	var some []api.Hunk
	for _, rows := range [][]string{{"-a\n"}, {"+a\n"}, {"-a\n", "+b"}, {" a\n", "+b\n"}, {"-a\n", "-b\n"}, {" a\n"}} {
		for code := range 16 {
			h := hunk(code%4, 0, code/4, 0, rows...)
			h.N, h.M = counts(h.Rows)
			some = append(some, h)
		}
	}
	errs := map[error]int{}
	for _, first := range some {
		for _, second := range some {
			l := []api.Hunk{first, second}
			got, err := Print(named("a"), named("b"), l)
			_, want := unified.Print(named("a"), named("b"), l)
			errs[want]++
			if want != nil {
				noText(t, shown(l...), got, err, want)
			} else {
				isText(t, shown(l...), got, err, "*** a\n--- b\n"+textsOf(t, l))
			}
		}
	}
	if len(errs) != 3 {
		t.Error(errs)
	}
}

// textsOf are the texts of hunks, one behind the other.
func textsOf(t *testing.T, l []api.Hunk) string {
	t.Helper()
	var b strings.Builder
	for _, h := range l {
		text, err := Hunk(h)
		isErr(t, shown(h), err, nil)
		b.WriteString(text)
	}
	return b.String()
}

// byItsWords is a hunk's text by the chapter's words, each row's mark sought by itself.
func byItsWords(h api.Hunk) string {
	mark := func(at int) string {
		kinds := map[int]int{}
		for i := at; i >= 0 && h.Rows[i].Kind != api.RowBoth; i-- {
			kinds[h.Rows[i].Kind]++
		}
		for i := at; i < len(h.Rows) && h.Rows[i].Kind != api.RowBoth; i++ {
			kinds[h.Rows[i].Kind]++
		}
		return map[[2]bool]string{{false, false}: "  ", {true, false}: "- ", {false, true}: "+ ", {true, true}: "! "}[[2]bool{kinds[api.RowOld] > 0, kinds[api.RowNew] > 0}]
	}
	part := func(own int) string {
		text, has := "", false
		for i, r := range h.Rows {
			if r.Kind != api.RowBoth && r.Kind != own {
				continue
			}
			has = has || r.Kind == own
			text += mark(i) + r.Text
			if !strings.HasSuffix(r.Text, "\n") {
				text += "\n" + noEnd
			}
		}
		if !has {
			return ""
		}
		return text
	}
	place := func(line, count int) string {
		if count == 0 || count == 1 {
			return fmt.Sprint(line)
		}
		return fmt.Sprintf("%d,%d", line, line+count-1)
	}
	text := fifteen
	if h.Head != "" {
		text += " " + h.Head
	}
	return text + "\n*** " + place(h.A, h.N) + " ****\n" + part(api.RowOld) + "--- " + place(h.B, h.M) + " ----\n" + part(api.RowNew)
}

// CX1: all small hunks.
func TestHunkOfAllSmall(t *testing.T) {
	n := 0
	check := func(rows []api.Row) {
		h := api.Hunk{A: 9, B: 10, Rows: rows}
		h.N, h.M = counts(rows)
		got, err := Hunk(h)
		if hunks.Valid(h) != nil {
			noText(t, shown(h), got, err, api.ErrHunk)
			return
		}
		n++
		isText(t, shown(h), got, err, byItsWords(h))
	}
	for _, rows := range someRows(4, "a\n", "b") {
		check(rows)
	}
	for _, rows := range someRows(8, "\n") {
		check(rows)
	}
	if n < 9000 {
		t.Error("only", n, "hunks")
	}
}
