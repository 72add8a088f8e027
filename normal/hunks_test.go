package normal

import (
	"math"
	"selvage/api"
	"selvage/hunks"
	"selvage/unified"
	"slices"
	"strings"
	"testing"
)

// N3: the text of a hunk.
func TestHunks(t *testing.T) {
	const most = api.MaxNumber
	for _, c := range []struct {
		h    api.Hunk
		want string
	}{
		{hunk(1, 1, 1, 1, "-a\n", "+b\n"), "1c1\n< a\n---\n> b\n"},
		{hunk(3, 2, 7, 1, "-a\n", "-b\n", "+c\n"), "3,4c7\n< a\n< b\n---\n> c\n"},
		{hunk(3, 1, 7, 2, "-a\n", "+b\n", "+c\n"), "3c7,8\n< a\n---\n> b\n> c\n"},
		{hunk(9, 3, 99, 3, "-a\n", "-b\n", "-c\n", "+d\n", "+e\n", "+f\n"), "9,11c99,101\n< a\n< b\n< c\n---\n> d\n> e\n> f\n"},
		{hunk(1, 1, 0, 0, "-a\n"), "1d0\n< a\n"},
		{hunk(5, 2, 9, 0, "-a\n", "-b\n"), "5,6d9\n< a\n< b\n"},
		{hunk(0, 0, 1, 1, "+a\n"), "0a1\n> a\n"},
		{hunk(9, 0, 5, 2, "+a\n", "+b\n"), "9a5,6\n> a\n> b\n"},
		// the greatest numbers
		{hunk(most, 0, most-1, 1, "+a\n"), "2147483647a2147483646\n> a\n"},
		{hunk(most-1, 1, most, 0, "-a\n"), "2147483646d2147483647\n< a\n"},
		{hunk(most-2, 2, most-1, 1, "-a\n", "-b\n", "+c\n"), "2147483645,2147483646c2147483646\n< a\n< b\n---\n> c\n"},
		// lines without an end
		{hunk(1, 1, 1, 1, "-a", "+a\n"), "1c1\n< a\n" + noEnd + "---\n> a\n"},
		{hunk(1, 1, 1, 1, "-a\n", "+a"), "1c1\n< a\n---\n> a\n" + noEnd},
		{hunk(1, 1, 1, 1, "-a", "+b"), "1c1\n< a\n" + noEnd + "---\n> b\n" + noEnd},
		{hunk(1, 2, 0, 0, "-a\n", "-b"), "1,2d0\n< a\n< b\n" + noEnd},
		{hunk(0, 0, 1, 2, "+a\n", "+b"), "0a1,2\n> a\n> b\n" + noEnd},
		// A change has no heading.
		{headed(hunk(1, 1, 1, 1, "-a\n", "+b\n"), "f"), "1c1\n< a\n---\n> b\n"},
		{headed(hunk(1, 1, 0, 0, "-a\n"), strings.Repeat("f", api.MaxPath)), "1d0\n< a\n"},
		// lines of any bytes
		{hunk(1, 2, 1, 2, "-\n", "----\n", "+\\\n", "+1c1\n"), "1,2c1,2\n< \n< ---\n---\n> \\\n> 1c1\n"},
		{hunk(1, 1, 1, 1, "-\x00\r\xff\n", "+\\"), "1c1\n< \x00\r\xff\n---\n> \\\n" + noEnd},
	} {
		got, err := Hunks([]api.Hunk{c.h})
		isText(t, shown(c.h), got, err, c.want)
	}
	for _, l := range [][]api.Hunk{nil, {}} {
		got, err := Hunks(l)
		isText(t, "no hunks", got, err, "")
	}
	got, err := Hunks([]api.Hunk{hunk(0, 0, 1, 1, "+a\n"), hunk(2, 1, 3, 1, "-b\n", "+c\n"), hunk(5, 2, 5, 0, "-d\n", "-e")})
	isText(t, "several hunks", got, err, "0a1\n> a\n2c3\n< b\n---\n> c\n5,6d5\n< d\n< e\n"+noEnd)
}

// badHunks are hunks that may not be, or that no change is.
func badHunks() []api.Hunk {
	const most = api.MaxNumber
	return []api.Hunk{
		// Valid does not take them.
		{},
		hunk(1, 0, 1, 0),
		hunk(0, 1, 1, 1, "-a\n", "+b\n"),
		hunk(1, 1, 0, 1, "-a\n", "+b\n"),
		hunk(1, 2, 1, 1, "-a\n", "+b\n"),
		hunk(1, 1, 1, 0, "-a\n", "+b\n"),
		hunk(1, 1, 1, 1, "-a\n"),
		hunk(-1, 0, 1, 1, "+b\n"),
		hunk(1, 1, -1, 0, "-b\n"),
		hunk(most, 1, 1, 1, "-a\n", "+b\n"),
		hunk(1, 1, most, 1, "-a\n", "+b\n"),
		hunk(most+1, 0, 1, 1, "+b\n"),
		hunk(math.MaxInt, 1, math.MinInt, 1, "-a\n", "+b\n"),
		hunk(math.MinInt, 0, 1, 1, "+b\n"),
		hunk(1, math.MinInt, 1, math.MaxInt, "-a\n", "+b\n"),
		hunk(1, 2, 1, 0, "-a", "-b\n"),
		hunk(1, 0, 1, 2, "+a", "+b\n"),
		hunk(1, 1, 1, 0, "-"),
		hunk(1, 1, 1, 0, "-a\nb\n"),
		hunk(1, 0, 1, 1, "+\n\n"),
		hunk(1, 1, 1, 1, "-a\n", "?x\n", "+b\n"),
		hunk(1, 0, 1, 0, "?x\n"),
		headed(hunk(1, 1, 1, 1, "-a\n", "+b\n"), "f\n"),
		headed(hunk(1, 1, 1, 1, "-a\n", "+b\n"), strings.Repeat("f", api.MaxPath+1)),
		// Valid takes them, but they have a row RowBoth.
		hunk(1, 2, 1, 1, "-a\n", " b\n"),
		hunk(1, 2, 1, 1, " a\n", "-b\n"),
		hunk(1, 1, 1, 2, "+a\n", " b\n"),
		hunk(1, 1, 1, 2, " a\n", "+b\n"),
		hunk(1, 2, 1, 2, "-a\n", " b\n", "+c\n"),
		hunk(1, 2, 1, 2, "-a\n", "+b\n", " c"),
		// Or a RowOld behind a RowNew.
		hunk(1, 1, 1, 1, "+b\n", "-a\n"),
		hunk(1, 2, 1, 1, "-a\n", "+b\n", "-c\n"),
		hunk(1, 1, 1, 2, "+a\n", "-b\n", "+c\n"),
		hunk(1, 1, 1, 2, "+a\n", "+b", "-c"),
	}
}

// N3: hunks that may not be, or have a row that no change has, wherever they stand.
func TestHunksErrors(t *testing.T) {
	ahead, behind := hunk(0, 0, 1, 1, "+x\n"), hunk(9, 1, 9, 1, "-y\n", "+z\n")
	valid := 0
	for _, bad := range badHunks() {
		if hunks.Valid(bad) == nil {
			valid++
		}
		for _, l := range [][]api.Hunk{{bad}, {ahead, bad}, {bad, behind}, {ahead, bad, behind}, {bad, bad}} {
			got, err := Hunks(l)
			noText(t, shown(l...), got, err, api.ErrHunk)
		}
	}
	if valid != 10 {
		t.Error(valid, "hunks that may be")
	}
}

// N3: ErrHunk is told ahead of ErrOrder, wherever they stand.
func TestHunksErrorsInTheirOrder(t *testing.T) {
	fine := hunk(9, 1, 9, 1, "-a\n", "+b\n")
	got, err := Hunks([]api.Hunk{fine, fine})
	noText(t, "the same twice", got, err, api.ErrOrder)
	for _, bad := range badHunks() {
		for _, l := range [][]api.Hunk{{fine, fine, bad}, {bad, fine, fine}, {fine, bad, fine}, {fine, bad}} {
			got, err := Hunks(l)
			noText(t, shown(l...), got, err, api.ErrHunk)
		}
	}
}

// orders are hunks, and whether they are in order.
func orders() []struct {
	name    string
	l       []api.Hunk
	inOrder bool
} {
	const most = api.MaxNumber
	first := hunk(2, 2, 4, 3, "-a\n", "-b\n", "+c\n", "+d\n", "+e\n") // the old lines 2 and 3, the new ones 4 to 6
	added := hunk(5, 0, 7, 1, "+x\n")                                 // behind the old line 5, the new line 7
	taken := hunk(7, 1, 5, 0, "-x\n")                                 // the old line 7, behind the new line 5
	change := func(a, b int) api.Hunk { return hunk(a, 1, b, 1, "-a\n", "+b\n") }
	return []struct {
		name    string
		l       []api.Hunk
		inOrder bool
	}{
		{"none", nil, true},
		{"one", []api.Hunk{first}, true},
		{"one, its places far apart", []api.Hunk{change(1, 77)}, true},
		{"right behind", []api.Hunk{first, change(4, 7)}, true},
		{"far behind, by other numbers of lines", []api.Hunk{first, change(40, 9)}, true},
		{"the same again", []api.Hunk{first, first}, false},
		{"old one line into it", []api.Hunk{first, change(3, 7)}, false},
		{"new one line into it", []api.Hunk{first, change(4, 6)}, false},
		{"old ahead of it", []api.Hunk{first, change(1, 9)}, false},
		{"new ahead of it", []api.Hunk{first, change(9, 1)}, false},
		{"N 0, right behind", []api.Hunk{first, hunk(3, 0, 7, 1, "+b\n")}, true},
		{"N 0, one line into it", []api.Hunk{first, hunk(2, 0, 7, 1, "+b\n")}, false},
		{"N 0, the new one into it", []api.Hunk{first, hunk(3, 0, 6, 1, "+b\n")}, false},
		{"M 0, right behind", []api.Hunk{first, hunk(4, 1, 6, 0, "-b\n")}, true},
		{"M 0, one line into it", []api.Hunk{first, hunk(4, 1, 5, 0, "-b\n")}, false},
		{"M 0, the old one into it", []api.Hunk{first, hunk(3, 1, 6, 0, "-b\n")}, false},
		{"behind N 0", []api.Hunk{added, change(6, 8)}, true},
		{"behind N 0, at its line", []api.Hunk{added, change(5, 8)}, false},
		{"behind N 0, at its new line", []api.Hunk{added, change(6, 7)}, false},
		{"N 0 behind N 0", []api.Hunk{added, hunk(5, 0, 8, 1, "+b\n")}, true},
		{"N 0 behind N 0, one ahead", []api.Hunk{added, hunk(4, 0, 8, 1, "+b\n")}, false},
		{"N 0 behind N 0, at its new line", []api.Hunk{added, added}, false},
		{"behind M 0", []api.Hunk{taken, change(8, 6)}, true},
		{"behind M 0, at its line", []api.Hunk{taken, change(8, 5)}, false},
		{"behind M 0, at its old line", []api.Hunk{taken, change(7, 6)}, false},
		{"M 0 behind M 0", []api.Hunk{taken, hunk(8, 1, 5, 0, "-b\n")}, true},
		{"M 0 behind M 0, one ahead", []api.Hunk{taken, hunk(8, 1, 4, 0, "-b\n")}, false},
		{"M 0 behind M 0, at its old line", []api.Hunk{taken, taken}, false},
		{"from nothing, twice", []api.Hunk{hunk(0, 0, 1, 1, "+a\n"), hunk(0, 0, 2, 1, "+b\n")}, true},
		{"N 0 at the limit, twice", []api.Hunk{hunk(most, 0, 1, 1, "+a\n"), hunk(most, 0, 2, 1, "+b\n")}, true},
		{"behind N 0 at the limit", []api.Hunk{hunk(most, 0, 1, 1, "+a\n"), change(most-1, 2)}, false},
		{"three", []api.Hunk{first, change(4, 7), change(5, 8)}, true},
		{"three, the third into the second", []api.Hunk{first, change(4, 7), change(4, 8)}, false},
		{"three, the second into the first", []api.Hunk{first, change(3, 7), change(9, 9)}, false},
		{"behind lines without an end", []api.Hunk{hunk(1, 1, 1, 1, "-a", "+b"), change(2, 2)}, true},
	}
}

// toldHunks is the text of hunks by the chapter's words.
func toldHunks(l []api.Hunk) string {
	var b strings.Builder
	for _, h := range l {
		c := api.Change{A: h.A, N: h.N, B: h.B, M: h.M}
		if h.N > 0 {
			c.A--
		}
		if h.M > 0 {
			c.B--
		}
		old, fresh := hunks.Sides(h)
		b.WriteString(toldChange(c, old, fresh))
	}
	return b.String()
}

// isInOrder tells whether hunks that may be are in order, as unified.Print has it.
func isInOrder(l []api.Hunk) bool {
	_, err := unified.Print(api.Name{Path: "a"}, api.Name{Path: "b"}, l)
	return err == nil
}

// N3, N2: how hunks may stand, printed and read.
func TestHunksOrder(t *testing.T) {
	for _, c := range orders() {
		got, err := Hunks(c.l)
		if !c.inOrder {
			noText(t, c.name, got, err, api.ErrOrder)
			continue
		}
		isText(t, c.name, got, err, toldHunks(c.l))
		isRead(t, got, read("", c.l...))
	}
}

// N2: hunks that are not in order are told at their commands.
func TestParseOrder(t *testing.T) {
	for _, c := range orders() {
		var b strings.Builder
		commands := []int{}
		for _, h := range c.l {
			commands = append(commands, strings.Count(b.String(), "\n")+1)
			text, err := Hunks([]api.Hunk{h})
			isErr(t, c.name, err, nil)
			b.WriteString(text)
		}
		if c.inOrder {
			isRead(t, b.String(), read("", c.l...))
			continue
		}
		bad := 0
		for isInOrder(c.l[:bad+1]) {
			bad++
		}
		for _, behind := range []string{"", "x\n", "1d\n", "1d0\n", "\\\n", "\\\n\\\n", "\\"} {
			isRead(t, b.String()+behind, wrong(commands[bad], api.ErrOrder))
		}
	}
}

// N3: all pairs of small hunks at all small places, held against what unified.Print says of their order.
func TestHunksOfAllSmall(t *testing.T) {
	var some []api.Hunk
	for _, rows := range [][]string{{"-a\n"}, {"+a\n"}, {"-a\n", "+b"}, {"-a\n", "-b\n"}, {"+a\n", "+b\n"}, {"-a\n", "+b\n", "+c\n"}, {" a\n", "+b\n"}, {"+a\n", "-b\n"}, {}} {
		for code := range 16 {
			h := hunk(code%4, 0, code/4, 0, rows...)
			h.N, h.M = counts(h.Rows)
			some = append(some, h)
		}
	}
	isBad := func(h api.Hunk) bool {
		return hunks.Valid(h) != nil || h.Rows[0].Kind == api.RowBoth || h.Rows[0].Kind == api.RowNew && h.N > 0
	}
	fine := 0
	for _, first := range some {
		for _, second := range some {
			l := []api.Hunk{first, second}
			got, err := Hunks(l)
			if slices.ContainsFunc(l, isBad) {
				noText(t, shown(l...), got, err, api.ErrHunk)
				continue
			}
			if !isInOrder(l) {
				noText(t, shown(l...), got, err, api.ErrOrder)
				continue
			}
			isText(t, shown(l...), got, err, toldHunks(l))
			fine++
		}
	}
	if fine < 500 {
		t.Error("only", fine, "pairs that can be told")
	}
}
