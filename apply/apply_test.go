package apply

import (
	"errors"
	"fmt"
	"math"
	"selvage/api"
	"slices"
	"strings"
	"testing"
)

// textOf are lines that are told by a letter each; behind the last one `|` takes its end away.
func textOf(letters string) []string {
	var l []string
	for _, letter := range letters {
		if letter == '|' {
			l[len(l)-1] = strings.TrimSuffix(l[len(l)-1], "\n")
			continue
		}
		l = append(l, string(letter)+"\n")
	}
	return l
}

// hunk is a hunk of rows, each told by its mark, its letter, and `|`, if it has no end.
func hunk(a, b int, rows ...string) api.Hunk {
	h := api.Hunk{A: a, B: b}
	for _, row := range rows {
		r := api.Row{Kind: api.RowBoth, Text: textOf(row[1:])[0]}
		switch row[0] {
		case '-':
			r.Kind = api.RowOld
		case '+':
			r.Kind = api.RowNew
		}
		if r.Kind != api.RowNew {
			h.N++
		}
		if r.Kind != api.RowOld {
			h.M++
		}
		h.Rows = append(h.Rows, r)
	}
	return h
}

// one is a list of one hunk.
func one(h api.Hunk) []api.Hunk {
	return []api.Hunk{h}
}

// steps are numbers that look like chance, the same ones each time.
type steps uint64

// below is the next number, from 0 to n - 1.
func (s *steps) below(n int) int {
	*s = *s*6364136223846793005 + 1442695040888963407
	return int(uint64(*s) >> 33 % uint64(n))
}

// isErr fails where an error is not the one that is wanted.
func isErr(t *testing.T, what string, err, want error) {
	t.Helper()
	if want == nil && err != nil || !errors.Is(err, want) {
		t.Errorf("%s: %v, not %v", what, err, want)
	}
}

// answer is what Apply answers.
type answer struct {
	lines   []string
	hits    []Hit
	rejects []int
	err     error
}

// apply asks Apply.
func apply(old []string, l []api.Hunk, fuzz int) answer {
	made, hits, rejects, err := Apply(old, l, fuzz)
	return answer{made, hits, rejects, err}
}

// same tells whether two answers are the same.
func (x answer) same(y answer) bool {
	return slices.Equal(x.lines, y.lines) && slices.Equal(x.hits, y.hits) && slices.Equal(x.rejects, y.rejects) && x.err == y.err
}

// String is an answer as a test tells it.
func (x answer) String() string {
	return fmt.Sprintf("%.400q %.400s %.200s %v", fmt.Sprint(x.lines), fmt.Sprint(x.hits), fmt.Sprint(x.rejects), x.err)
}

// called is a call as a test tells it.
func called(old []string, l []api.Hunk, fuzz int) string {
	return fmt.Sprintf("%.400q, %.600q, fuzz %d", fmt.Sprint(old), fmt.Sprint(l), fuzz)
}

// does fails where Apply of hunks to a text, told by its letters, does not answer what is wanted.
func does(t *testing.T, old string, l []api.Hunk, fuzz int, fresh string, hits []Hit, rejects ...int) {
	t.Helper()
	got := apply(textOf(old), l, fuzz)
	if want := (answer{textOf(fresh), hits, rejects, nil}); !got.same(want) {
		t.Errorf("%s: %v, not %v", called(textOf(old), l, fuzz), got, want)
	}
}

// fails fails where Apply does not answer the error that is wanted, and nothing beside it.
func fails(t *testing.T, old []string, l []api.Hunk, fuzz int, want error) {
	t.Helper()
	if got := apply(old, l, fuzz); !got.same(answer{err: want}) {
		t.Errorf("%s: %v, not %v", called(old, l, fuzz), got, want)
	}
}

// The chapter's examples.
func TestExamples(t *testing.T) {
	does(t, "abcd", one(hunk(2, 2, " b", "-c", "+x")), 0, "abxd", []Hit{{0, 2, 0, 0}})
	does(t, "abcd", one(hunk(1, 1, " b", "-c", "+x")), 0, "abxd", []Hit{{0, 2, 1, 0}})
	does(t, "abcd", one(hunk(2, 2, " z", "-c", "+x")), 0, "abcd", nil, 0)
	does(t, "abcd", one(hunk(2, 2, " z", "-c", "+x")), 1, "abxd", []Hit{{0, 2, 0, 1}})
}

// AP2, AP4: no hunk, and texts without a line.
func TestApplyNothing(t *testing.T) {
	for fuzz := range api.MaxFuzz + 1 {
		for _, old := range []string{"", "a", "a|", "abc", "abc|"} {
			does(t, old, nil, fuzz, old, nil)
			does(t, old, []api.Hunk{}, fuzz, old, nil)
		}
		does(t, "", one(hunk(0, 1, "+a")), fuzz, "a", []Hit{{0, 1, 0, 0}})
		does(t, "", one(hunk(7, 8, "+a|")), fuzz, "a|", []Hit{{0, 1, -7, 0}})
		does(t, "", one(hunk(1, 0, "-a")), fuzz, "", nil, 0)
		does(t, "a", one(hunk(1, 0, "-a")), fuzz, "", []Hit{{0, 1, 0, 0}})
		does(t, "a|", one(hunk(1, 0, "-a|")), fuzz, "", []Hit{{0, 1, 0, 0}})
	}
}

// AP2: one hunk, at the beginning, in the middle, at the end, with lines that come, go, or both.
func TestApplyOne(t *testing.T) {
	exact := []Hit{{0, 1, 0, 0}}
	does(t, "abc", one(hunk(1, 1, "-a", "+x")), 0, "xbc", exact)
	does(t, "abc", one(hunk(1, 1, "-a", " b")), 0, "bc", exact)
	does(t, "abc", one(hunk(1, 1, "+x", " a")), 0, "xabc", exact)
	does(t, "abc", one(hunk(0, 1, "+x", "+y")), 0, "xyabc", exact)
	does(t, "abc", one(hunk(1, 0, "-a", "-b", "-c")), 0, "", exact)
	does(t, "abc", one(hunk(1, 1, "-a", "-b", "-c", "+x")), 0, "x", exact)
	does(t, "abc", one(hunk(2, 1, "-b")), 0, "ac", []Hit{{0, 2, 0, 0}})
	does(t, "abc", one(hunk(1, 2, "+x")), 0, "axbc", []Hit{{0, 2, 0, 0}})
	does(t, "abc", one(hunk(3, 3, "-c", "+x", "+y")), 0, "abxy", []Hit{{0, 3, 0, 0}})
	does(t, "abc", one(hunk(3, 4, "+x")), 0, "abcx", []Hit{{0, 4, 0, 0}})
	does(t, "abc", one(hunk(2, 2, " b", " c", "+x")), 0, "abcx", []Hit{{0, 2, 0, 0}})
	// rows in any order, several runs of them
	does(t, "abcde", one(hunk(1, 1, " a", "+x", "-b", "+y", " c", "-d", "+z", " e")), 0, "axycze", exact)
	// what B says of the place means nothing
	does(t, "abc", one(hunk(2, 77, "-b", "+x")), 0, "axc", []Hit{{0, 2, 0, 0}})
}

// AP2: hunks that have moved: on, and back, and off the text.
func TestApplyMoved(t *testing.T) {
	for at, offset := range []int{2, 1, 0, -1, -2} {
		does(t, "abcde", one(hunk(at+1, 1, "-c", "+x")), 0, "abxde", []Hit{{0, 3, offset, 0}})
	}
	does(t, "abcde", one(hunk(900, 1, " d", "-e", "+x")), 0, "abcdx", []Hit{{0, 4, -896, 0}})
	does(t, "abcde", one(hunk(api.MaxNumber-2, 1, " a", "-b", "+x")), 0, "axcde", []Hit{{0, 1, 3 - api.MaxNumber, 0}})
	// lines that come alone have every place, and so their own or the end
	does(t, "abc", one(hunk(2, 3, "+x")), 0, "abxc", []Hit{{0, 3, 0, 0}})
	does(t, "abc", one(hunk(9, 9, "+x")), 0, "abcx", []Hit{{0, 4, -6, 0}})
	// of two places as near the lesser, else the nearest
	does(t, "abaca", one(hunk(2, 2, "-a")), 0, "baca", []Hit{{0, 1, -1, 0}})
	does(t, "abaca", one(hunk(4, 4, "-a")), 0, "abca", []Hit{{0, 3, -1, 0}})
	does(t, "abcca", one(hunk(4, 4, "-a")), 0, "abcc", []Hit{{0, 5, 1, 0}})
}

// AP2: several hunks, and the lines of Hits behind those that made more lines, fewer, as many.
func TestApplySeveral(t *testing.T) {
	more, fewer, asMany := hunk(1, 1, "-a", "+x", "+y", "+z"), hunk(3, 5, "-c", "-d"), hunk(6, 6, "-f", "+w")
	does(t, "abcdefg", []api.Hunk{more, fewer, asMany, hunk(7, 7, "-g")}, 0, "xyzbew", []Hit{{0, 1, 0, 0}, {1, 5, 0, 0}, {2, 6, 0, 0}, {3, 7, 0, 0}})
	does(t, "abcdefg", []api.Hunk{fewer, asMany, hunk(7, 7, "+v")}, 0, "abewgv", []Hit{{0, 3, 0, 0}, {1, 4, 0, 0}, {2, 6, 0, 0}})
	// rows that a fuzz leaves out count in neither
	does(t, "abcdefg", []api.Hunk{hunk(1, 1, " q", "-b", "+x", "+y", " r"), hunk(6, 7, "-f")}, 1, "axycdeg", []Hit{{0, 1, 0, 1}, {1, 7, 0, 0}})
	// hunks that stand right behind one another, and at one place
	does(t, "abc", []api.Hunk{hunk(1, 1, "-a", "+x"), hunk(2, 2, "-b", "+y"), hunk(3, 3, "-c", "+z")}, 0, "xyz", []Hit{{0, 1, 0, 0}, {1, 2, 0, 0}, {2, 3, 0, 0}})
	does(t, "ab", []api.Hunk{hunk(1, 2, "+x"), hunk(1, 3, "+y"), hunk(1, 4, "+z")}, 0, "axyzb", []Hit{{0, 2, 0, 0}, {1, 3, 0, 0}, {2, 4, 0, 0}})
}

// AP2: a hunk's offset is where the next one is sought first.
func TestApplyOffsetsFollow(t *testing.T) {
	first, second := hunk(1, 1, "-a", "+x"), hunk(4, 4, "-b", "+y")
	// the second one would be nearer at the line 5, but all has moved by two lines
	does(t, "..a.bb.", []api.Hunk{first, second}, 0, "..x.by.", []Hit{{0, 3, 2, 0}, {1, 6, 2, 0}})
	does(t, "a...bb.", []api.Hunk{first, second}, 0, "x...yb.", []Hit{{0, 1, 0, 0}, {1, 5, 1, 0}})
	// each one's own, also back
	does(t, ".a..b.c", []api.Hunk{first, hunk(4, 4, "-b"), hunk(7, 7, "-c")}, 0, ".x...", []Hit{{0, 2, 1, 0}, {1, 5, 1, 0}, {2, 6, 0, 0}})
	does(t, "a.b..", []api.Hunk{hunk(3, 3, "-a"), hunk(7, 7, "+x")}, 0, ".b..x", []Hit{{0, 1, -2, 0}, {1, 5, -2, 0}})
	// that of one with a fuzz, whose rows are left out, too
	does(t, "..a..b.b.", []api.Hunk{hunk(1, 1, " q", "-a"), hunk(7, 7, "-b")}, 1, "....b..", []Hit{{0, 2, 1, 1}, {1, 7, 1, 0}})
}

// AP2: a hunk that is not found leaves the offset, and where the next one may stand, as they were.
func TestApplyRejects(t *testing.T) {
	lost, a, c := hunk(2, 2, "-q", "+r"), hunk(1, 1, "-a", "+x"), hunk(3, 3, "-c", "+z")
	does(t, "abc", []api.Hunk{lost, a, c}, 0, "xbz", []Hit{{1, 1, 0, 0}, {2, 3, 0, 0}}, 0)
	does(t, "abc", []api.Hunk{a, lost, c}, 0, "xbz", []Hit{{0, 1, 0, 0}, {2, 3, 0, 0}}, 1)
	does(t, "abc", []api.Hunk{a, c, lost}, 0, "xbz", []Hit{{0, 1, 0, 0}, {1, 3, 0, 0}}, 2)
	does(t, "abc", []api.Hunk{lost, lost, lost}, 3, "abc", nil, 0, 1, 2)
	does(t, "abc", []api.Hunk{lost, a, lost, lost, c, lost}, 3, "xbz", []Hit{{1, 1, 0, 0}, {4, 3, 0, 0}}, 0, 2, 3, 5)
	// the lines of one that makes more are told by those that were found alone
	does(t, "abc", []api.Hunk{a, hunk(2, 2, "-q", "+r", "+s"), c}, 0, "xbz", []Hit{{0, 1, 0, 0}, {2, 3, 0, 0}}, 1)
	// moved by one, lost, and moved still
	does(t, ".a.b.b", []api.Hunk{a, lost, hunk(5, 5, "-b", "+y")}, 0, ".x.b.y", []Hit{{0, 2, 1, 0}, {2, 6, 1, 0}}, 1)
}

// AP2: hunks out of order, and such as would take a line that is taken.
func TestApplyOutOfOrder(t *testing.T) {
	a, c := hunk(1, 1, "-a", "+x"), hunk(3, 3, "-c", "+z")
	does(t, "abc", []api.Hunk{c, a}, 0, "abz", []Hit{{0, 3, 0, 0}}, 1)
	does(t, "abca", []api.Hunk{c, a}, 0, "abzx", []Hit{{0, 3, 0, 0}, {1, 4, 3, 0}})
	does(t, "abc", []api.Hunk{a, a}, 0, "xbc", []Hit{{0, 1, 0, 0}}, 1)
	does(t, "aac", []api.Hunk{a, a}, 0, "xxc", []Hit{{0, 1, 0, 0}, {1, 2, 1, 0}})
	// context is taken, too
	does(t, "abc", []api.Hunk{hunk(1, 1, "-a", " b"), hunk(2, 1, " b", "-c")}, 0, "bc", []Hit{{0, 1, 0, 0}}, 1)
	does(t, "abc", []api.Hunk{hunk(1, 1, "-a", " b"), hunk(2, 1, " b", "-c")}, 1, "b", []Hit{{0, 1, 0, 0}, {1, 1, 0, 1}})
	does(t, "abc", []api.Hunk{hunk(1, 1, "-a", " b"), hunk(1, 1, "+x")}, 0, "bxc", []Hit{{0, 1, 0, 0}, {1, 2, 1, 0}})
	// where rows are left out at the end, the next one may begin at them
	does(t, "abc", []api.Hunk{hunk(1, 1, "-a", " q"), hunk(2, 1, "-b", "+y")}, 1, "yc", []Hit{{0, 1, 0, 1}, {1, 1, 0, 0}})
	// and where they are left out at the beginning, it may begin ahead of what is taken
	does(t, "abc", []api.Hunk{hunk(1, 1, "-a", " b"), hunk(2, 2, " q", "-c")}, 1, "b", []Hit{{0, 1, 0, 0}, {1, 1, 0, 1}})
	does(t, "abc", []api.Hunk{hunk(1, 1, "-a", "-b", "+x"), hunk(1, 1, " p", " q", "-c", "+z")}, 2, "xz", []Hit{{0, 1, 0, 0}, {1, 0, 0, 2}})
}

// AP2: what a fuzz leaves out stays what it is, however many rows.
func TestApplyWithFuzz(t *testing.T) {
	h := hunk(1, 1, " a", " b", " c", "-d", "+x", " e", " f", " g")
	does(t, "abcdefg", one(h), 3, "abcxefg", []Hit{{0, 1, 0, 0}})
	for fuzz, old := range []string{"abcdefg", "qbcdefg", "qqcdefg", "qqqdefg"} {
		does(t, old, one(h), 3, strings.Replace(old, "d", "x", 1), []Hit{{0, 1, 0, fuzz}})
		does(t, old, one(h), fuzz, strings.Replace(old, "d", "x", 1), []Hit{{0, 1, 0, fuzz}})
		if fuzz > 0 {
			does(t, old, one(h), fuzz-1, old, nil, 0)
		}
	}
	for fuzz, old := range []string{"abcdefg", "abcdefq", "abcdeqq", "abcdqqq"} {
		does(t, old, one(h), 3, strings.Replace(old, "d", "x", 1), []Hit{{0, 1, 0, fuzz}})
		does(t, old, one(h), fuzz, strings.Replace(old, "d", "x", 1), []Hit{{0, 1, 0, fuzz}})
		if fuzz > 0 {
			does(t, old, one(h), fuzz-1, old, nil, 0)
		}
	}
	// lines that are not there at all
	does(t, "bcdef", one(h), 3, "bcxef", []Hit{{0, 0, -1, 1}})
	does(t, "d", one(h), 3, "x", []Hit{{0, -2, -3, 3}})
	does(t, "d", one(h), 2, "d", nil, 0)
	does(t, "abc.efg", one(h), 3, "abc.efg", nil, 0)
	// rows of both in the middle are not left out, and nor is a fourth one
	does(t, "a.c", one(hunk(1, 1, "-a", " b", "-c")), 3, "a.c", nil, 0)
	does(t, "d", one(hunk(1, 1, " .", " a", " b", " c", "-d")), 3, "d", nil, 0)
	does(t, ".d", one(hunk(1, 1, " .", " a", " b", " c", "-d")), 3, ".d", nil, 0)
	does(t, ".d", one(hunk(1, 1, " .", " a", " b", "-d")), 2, ".d", nil, 0)
}

// AP2, P11: the last line without an end, that is taken, left, and made.
func TestApplyEnds(t *testing.T) {
	exact := []Hit{{0, 2, 0, 0}}
	does(t, "ab|", one(hunk(2, 2, "-b|", "+x|")), 0, "ax|", exact)
	does(t, "ab|", one(hunk(2, 2, "-b|", "+b")), 0, "ab", exact)
	does(t, "ab", one(hunk(2, 2, "-b", "+b|")), 0, "ab|", exact)
	does(t, "ab|", one(hunk(2, 2, "-b|", "+b", "+c|")), 0, "abc|", exact)
	does(t, "ab|", one(hunk(2, 1, "-b|")), 0, "a", exact)
	does(t, "ab|", one(hunk(1, 1, "-a", "+x")), 0, "xb|", []Hit{{0, 1, 0, 0}})
	does(t, "ab|", one(hunk(1, 1, "-a", " b|")), 0, "b|", []Hit{{0, 1, 0, 0}})
	does(t, "ab", one(hunk(2, 3, "+c|")), 0, "abc|", []Hit{{0, 3, 0, 0}})
	// a line with its end is another one
	does(t, "ab|", one(hunk(2, 2, "-b", "+x")), 3, "ab|", nil, 0)
	does(t, "ab", one(hunk(2, 2, "-b|", "+x")), 3, "ab", nil, 0)
	// as context it can be left out, and is not made
	does(t, "ab", one(hunk(1, 1, "-a", "+x", " b|")), 1, "xb", []Hit{{0, 1, 0, 1}})
	does(t, "ab|", one(hunk(1, 1, "-a", "+x", " b")), 1, "xb|", []Hit{{0, 1, 0, 1}})
}

// AP2: a line without an end that does not stand last.
func TestApplyMakesNoText(t *testing.T) {
	for _, l := range [][]api.Hunk{
		one(hunk(1, 1, "-a", "+x|")),
		one(hunk(0, 1, "+x|")),
		one(hunk(1, 2, "+x|")),
		{hunk(0, 1, "+x|"), hunk(1, 2, "-a"), hunk(3, 3, "-c")},
	} {
		fails(t, textOf("abc"), l, 0, api.ErrLine)
		fails(t, textOf("abc|"), l[:1], 3, api.ErrLine)
	}
	fails(t, textOf("ab|"), one(hunk(2, 3, "+c")), 0, api.ErrLine)
	fails(t, textOf("ab|"), one(hunk(2, 3, "+c|")), 0, api.ErrLine)
	fails(t, textOf("b|"), []api.Hunk{hunk(1, 1, " b|", "-q"), hunk(1, 2, "+c")}[1:], 0, api.ErrLine)
	// with rejects, and with a fuzz that leaves out the line behind
	fails(t, textOf("abc"), []api.Hunk{hunk(1, 1, "-q"), hunk(2, 2, "-b", "+x|")}, 0, api.ErrLine)
	// where a later hunk takes what is behind, it is a text again
	does(t, "ab", []api.Hunk{hunk(1, 1, "-a", "+x|"), hunk(2, 2, "-b")}, 0, "x|", []Hit{{0, 1, 0, 0}, {1, 2, 0, 0}})
}

// notLines are lists that are no text's lines.
func notLines() [][]string {
	return [][]string{{""}, {"", "a\n"}, {"a\n", ""}, {"a", "b\n"}, {"a", "b"}, {"a\nb"}, {"a\nb\n"}, {"\n\n"}, {"a\n", "b", "c\n"}}
}

// badHunks are hunks that may not be, one for each of chapter 10's words.
func badHunks() []api.Hunk {
	var l []api.Hunk
	for _, spoil := range []func(h *api.Hunk){
		func(h *api.Hunk) { *h = api.Hunk{} },
		func(h *api.Hunk) { *h = hunk(1, 1, " a") },
		func(h *api.Hunk) { h.Rows = nil },
		func(h *api.Hunk) { h.Rows[1].Kind = 0 },
		func(h *api.Hunk) { h.Rows[1].Kind = 4 },
		func(h *api.Hunk) { h.Rows[1].Text = "" },
		func(h *api.Hunk) { h.Rows[1].Text = "b\nb\n" },
		func(h *api.Hunk) { h.Rows[0].Text = "a" },
		func(h *api.Hunk) { h.N = 1 },
		func(h *api.Hunk) { h.N = 3 },
		func(h *api.Hunk) { h.N = math.MinInt },
		func(h *api.Hunk) { h.M = 1 },
		func(h *api.Hunk) { h.M = math.MaxInt },
		func(h *api.Hunk) { h.A = 0 },
		func(h *api.Hunk) { h.A = -1 },
		func(h *api.Hunk) { h.A = math.MinInt },
		func(h *api.Hunk) { h.A = api.MaxNumber - 1 },
		func(h *api.Hunk) { h.A = math.MaxInt },
		func(h *api.Hunk) { h.B = 0 },
		func(h *api.Hunk) { h.B = math.MaxInt },
		func(h *api.Hunk) { h.Head = "a\n" },
		func(h *api.Hunk) { h.Head = strings.Repeat("x", api.MaxPath+1) },
	} {
		h := hunk(1, 1, " a", "-b", "+x")
		spoil(&h)
		l = append(l, h)
	}
	return l
}

// AP2: each error, where all else is as it may be.
func TestApplyErrors(t *testing.T) {
	old, fine := textOf("abc"), hunk(1, 1, " a", "-b", "+x")
	for _, fuzz := range []int{math.MinInt, -1, api.MaxFuzz + 1, math.MaxInt} {
		fails(t, old, one(fine), fuzz, api.ErrArg)
		fails(t, old, nil, fuzz, api.ErrArg)
		fails(t, nil, nil, fuzz, api.ErrArg)
	}
	for _, l := range notLines() {
		fails(t, l, one(fine), 0, api.ErrLine)
		fails(t, l, nil, 0, api.ErrLine)
		// also where a hunk would make a text of them
		for _, line := range l {
			fails(t, l, one(api.Hunk{A: 1, N: 1, B: 1, M: 1, Rows: []api.Row{{Kind: api.RowOld, Text: line}, {Kind: api.RowNew, Text: "x\n"}}}), 0, api.ErrLine)
		}
	}
	for _, bad := range badHunks() {
		for _, l := range [][]api.Hunk{{bad}, {bad, fine}, {fine, bad}, {fine, bad, fine}, {hunk(1, 1, "-q"), bad}} {
			fails(t, old, l, 0, api.ErrHunk)
			fails(t, old, l, 3, api.ErrHunk)
		}
	}
}

// AP2: of two errors the one that is named first.
func TestApplyErrorsInTheirOrder(t *testing.T) {
	bad, noText := api.Hunk{}, hunk(0, 1, "+x|")
	for _, fuzz := range []int{-1, api.MaxFuzz + 1} {
		fails(t, []string{""}, one(hunk(1, 1, "-a")), fuzz, api.ErrArg)
		fails(t, []string{""}, one(bad), fuzz, api.ErrArg)
		fails(t, textOf("a"), one(bad), fuzz, api.ErrArg)
		fails(t, textOf("a"), one(noText), fuzz, api.ErrArg)
	}
	fails(t, []string{""}, one(bad), 0, api.ErrLine)
	fails(t, []string{"a", "b\n"}, []api.Hunk{noText, bad}, 3, api.ErrLine)
	fails(t, textOf("a"), []api.Hunk{noText, bad}, 0, api.ErrHunk)
	fails(t, textOf("a"), []api.Hunk{bad, noText}, 3, api.ErrHunk)
}

// isAlready fails where Already does not answer what is wanted.
func isAlready(t *testing.T, old string, want bool, l ...api.Hunk) {
	t.Helper()
	if got := Already(textOf(old), l); got != want {
		t.Errorf("Already of %s: %v", called(textOf(old), l, 0), got)
	}
}

// AP3: hunks that have been applied, have not, have been elsewhere or in part.
func TestAlready(t *testing.T) {
	h, far := hunk(2, 2, " b", "-c", "+x", " d"), hunk(6, 6, "-f", "+y", "+z")
	isAlready(t, "abxd", true, h)
	isAlready(t, "abxdeyz", true, h, far)
	isAlready(t, "abxdeyzg|", true, h, far)
	isAlready(t, "abcd", false, h)
	isAlready(t, "abcdef", false, h, far)
	isAlready(t, "abxdef", false, h, far)
	isAlready(t, "abcdeyz", false, h, far)
	// elsewhere: a line ahead of it, and behind it
	isAlready(t, "bxd", false, h)
	isAlready(t, "aabxd", false, h)
	isAlready(t, "abxdyz", false, h, far)
	isAlready(t, "abxde.yz", false, h, far)
	// both there and elsewhere
	isAlready(t, "abxdbxd", true, h)
	// with a fuzz it would have been
	isAlready(t, "aqxd", false, h)
	isAlready(t, "abxq", false, h)
	isAlready(t, "", false, h)
}

// AP3: no hunk; lines that come, or go, alone; what B says, not A.
func TestAlreadyAtEdges(t *testing.T) {
	for _, old := range []string{"", "a", "abc|"} {
		isAlready(t, old, false)
	}
	isAlready(t, "ax", true, hunk(1, 2, "+x"))
	isAlready(t, "a", false, hunk(1, 2, "+x"))
	isAlready(t, "ac", true, hunk(2, 1, "-b"))
	// lines that went are none: they match at each place that there is
	isAlready(t, "abc", true, hunk(2, 1, "-b"))
	isAlready(t, "", false, hunk(2, 1, "-b"))
	isAlready(t, "", true, hunk(1, 0, "-b"))
	isAlready(t, ".x", true, hunk(1, 2, "-a", "+x"))
	isAlready(t, "x.", false, hunk(1, 2, "-a", "+x"))
	isAlready(t, "x.", true, hunk(2, 1, "-a", "+x"))
	// an end that came, and one that went
	isAlready(t, "a", true, hunk(1, 1, "-a|", "+a"))
	isAlready(t, "a|", false, hunk(1, 1, "-a|", "+a"))
	isAlready(t, "a|", true, hunk(1, 1, "-a", "+a|"))
	// what the hunks would have been made of is no text
	isAlready(t, "ab", false, hunk(1, 1, "-a|", "+a"))
	// hunks out of order, and twice the same
	isAlready(t, "x.y", true, hunk(1, 1, "-a", "+x"), hunk(3, 3, "-b", "+y"))
	isAlready(t, "x.y", false, hunk(3, 3, "-b", "+y"), hunk(1, 1, "-a", "+x"))
	isAlready(t, "x.y", false, hunk(1, 1, "-a", "+x"), hunk(1, 1, "-a", "+x"))
}

// AP3: hunks that may not be, and lists that are no lines.
func TestAlreadyOfWhatMayNotBe(t *testing.T) {
	fine := hunk(1, 1, " a", "-b", "+x")
	for _, bad := range badHunks() {
		isAlready(t, "ax", false, bad)
		isAlready(t, "ax", false, fine, bad)
		isAlready(t, "ax", false, bad, fine)
	}
	isAlready(t, "ax", true, fine)
	for _, l := range notLines() {
		if Already(l, one(hunk(0, 1, "+x"))) || Already(append(textOf("ax"), l...), one(fine)) {
			t.Errorf("Already of %q", l)
		}
	}
}
