package apply

import (
	"fmt"
	"math"
	"selvage/api"
	"strings"
	"testing"
)

// call is a call of Find, but for the text.
type call struct {
	h                  api.Hunk
	from, offset, fuzz int
}

// String is a call as a test tells it.
func (c call) String() string {
	return fmt.Sprintf("%.400q from %d, offset %d, fuzz %d", fmt.Sprint(c.h), c.from, c.offset, c.fuzz)
}

// finds fails where Find in a text, told by its letters, does not answer the place and the fuzz that are wanted.
func finds(t *testing.T, old string, c call, place, fuzz int) {
	t.Helper()
	q, f, found := Find(textOf(old), c.h, c.from, c.offset, c.fuzz)
	if q != place || f != fuzz || !found {
		t.Errorf("%q, %v: %d, %d, %v, not %d, %d", old, c, q, f, found, place, fuzz)
	}
}

// findsNone fails where Find answers a place, or anything beside that there is none.
func findsNone(t *testing.T, old string, c call) {
	t.Helper()
	q, f, found := Find(textOf(old), c.h, c.from, c.offset, c.fuzz)
	if q != 0 || f != 0 || found {
		t.Errorf("%q, %v: %d, %d, %v", old, c, q, f, found)
	}
}

// AP1: the stated place, and the nearest one to it.
func TestFind(t *testing.T) {
	for at, place := range []int{1, 1, 1, 4, 4, 4, 6, 6, 6} {
		finds(t, ".a..a.a", call{h: hunk(at+1, 1, "-a")}, place, 0)
	}
	finds(t, "abab", call{h: hunk(1, 1, "-a", " b")}, 0, 0)
	finds(t, "abab", call{h: hunk(2, 1, "-a", " b")}, 0, 0)
	finds(t, "abab", call{h: hunk(3, 1, "-a", " b")}, 2, 0)
	finds(t, "abab", call{h: hunk(api.MaxNumber-2, 1, "-a", " b")}, 2, 0)
	finds(t, "abab", call{h: hunk(1, 1, " a", "+x", " b", "-a", "+y", "+z", " b")}, 0, 0)
	findsNone(t, "abab", call{h: hunk(1, 1, " a", "-a")})
	findsNone(t, "abab", call{h: hunk(1, 1, " a", "-b", " a", " b", " a")})
	findsNone(t, "abab", call{h: hunk(1, 1, "-c")})
	findsNone(t, "", call{h: hunk(1, 1, "-c")})
	// lines with an end and without one
	finds(t, "aba|", call{h: hunk(1, 1, "-a|", "+x")}, 2, 0)
	finds(t, "aba|", call{h: hunk(3, 1, "-a", "+x")}, 0, 0)
}

// AP1: with an offset, and of places as near on both sides the lesser one.
func TestFindOffsets(t *testing.T) {
	for offset, place := range []int{2, 2, 2, 2, 2, 6, 6, 6, 9, 9, 9} {
		finds(t, "..a...a..a..", call{h: hunk(1, 1, "-a"), offset: offset}, place, 0)
		finds(t, "..a...a..a..", call{h: hunk(offset+1, 1, "-a")}, place, 0)
		finds(t, "..a...a..a..", call{h: hunk(50, 1, "-a"), offset: offset - 49}, place, 0)
	}
	// as near on both sides, one line away and more
	finds(t, "a.a", call{h: hunk(2, 1, "-a")}, 0, 0)
	for gap := range 40 {
		old := "a" + strings.Repeat(".", 2*gap+1) + "a"
		finds(t, old, call{h: hunk(gap+2, 1, "-a")}, 0, 0)
		finds(t, old, call{h: hunk(gap+3, 1, "-a")}, 2*gap+2, 0)
		finds(t, old, call{h: hunk(gap+3, 1, "-a"), offset: -1}, 0, 0)
		finds(t, old, call{h: hunk(1, 1, "-a"), offset: gap + 1}, 0, 0)
		finds(t, old, call{h: hunk(1, 1, "-a"), offset: gap + 2}, 2*gap+2, 0)
		// the lesser one lies ahead of from
		finds(t, old, call{h: hunk(gap+2, 1, "-a"), from: 1}, 2*gap+2, 0)
	}
}

// AP1: sums beyond the greatest int and the least one.
func TestFindSums(t *testing.T) {
	last := api.MaxNumber - 2
	for _, at := range []int{1, 2, 3, 900, last} {
		for _, offset := range []int{math.MinInt, math.MinInt + 1, -api.MaxNumber - 9} {
			finds(t, ".a.a.a.", call{h: hunk(at, 1, "-a"), offset: offset}, 1, 0)
			finds(t, ".a.a.a.", call{h: hunk(at, 1, "-a"), offset: offset, from: 2}, 3, 0)
			finds(t, ".a.a.a.", call{h: hunk(at, 1, " q", "-a"), offset: offset, fuzz: 1}, 0, 1)
		}
		for _, offset := range []int{math.MaxInt, math.MaxInt - 1, math.MaxInt - last, math.MaxInt - last + 1, 5} {
			finds(t, ".a.a.a.", call{h: hunk(at, 1, "-a"), offset: offset}, 5, 0)
			finds(t, ".a.a.a.", call{h: hunk(at, 1, "-a"), offset: offset, from: 4}, 5, 0)
			finds(t, ".a.a.a.", call{h: hunk(at, 1, " q", "-a"), offset: offset, fuzz: 3}, 4, 1)
			findsNone(t, ".a.a.a.", call{h: hunk(at, 1, "-a"), offset: offset, from: 6})
		}
	}
	// the place itself, with an offset beyond the text that leads back into it
	finds(t, ".a.a.a.", call{h: hunk(last, 1, "-a"), offset: 4 - last}, 3, 0)
	// hunks without old lines, at all places
	for _, at := range []int{0, 1, 7, api.MaxNumber - 1} {
		finds(t, "abc", call{h: hunk(at, 1, "+x"), offset: math.MinInt}, 0, 0)
		finds(t, "abc", call{h: hunk(at, 1, "+x"), offset: math.MinInt, from: 2}, 2, 0)
		finds(t, "abc", call{h: hunk(at, 1, "+x"), offset: math.MaxInt}, 3, 0)
		finds(t, "abc", call{h: hunk(at, 1, "+x"), offset: math.MaxInt, from: math.MinInt}, 3, 0)
	}
}

// AP1: from below 0, at 0, within, at the end and beyond it.
func TestFindFrom(t *testing.T) {
	for _, from := range []int{math.MinInt, -api.MaxNumber, -1, 0, 1} {
		finds(t, ".a.a.", call{h: hunk(1, 1, "-a"), from: from}, 1, 0)
	}
	for _, from := range []int{2, 3} {
		finds(t, ".a.a.", call{h: hunk(1, 1, "-a"), from: from}, 3, 0)
		finds(t, ".a.a.", call{h: hunk(9, 1, "-a"), from: from, offset: -9}, 3, 0)
	}
	for _, from := range []int{4, 5, 6, api.MaxNumber, math.MaxInt - 1, math.MaxInt} {
		findsNone(t, ".a.a.", call{h: hunk(1, 1, "-a"), from: from})
		findsNone(t, ".a.a.", call{h: hunk(4, 1, "-a"), from: from, fuzz: 3})
	}
	// the last line, at the end
	finds(t, ".a.a", call{h: hunk(1, 1, "-a"), from: 3}, 3, 0)
	findsNone(t, ".a.a", call{h: hunk(1, 1, "-a"), from: 4})
	// from is where the lines that are left may begin, not those that are left out
	finds(t, "..a", call{h: hunk(1, 1, " p", " q", "-a"), from: 2, fuzz: 2}, 0, 2)
	finds(t, "a", call{h: hunk(1, 1, " p", " q", "-a"), from: -5, fuzz: 2}, -2, 2)
	findsNone(t, "..a", call{h: hunk(1, 1, " p", " q", "-a"), from: 3, fuzz: 2})
	finds(t, "pqa", call{h: hunk(1, 1, " p", " q", "-a"), from: 0, fuzz: 2}, 0, 0)
	finds(t, "pqa", call{h: hunk(1, 1, " p", " q", "-a"), from: 1, fuzz: 2}, 0, 1)
	finds(t, "pqa", call{h: hunk(1, 1, " p", " q", "-a"), from: 2, fuzz: 2}, 0, 2)
	findsNone(t, "pqa", call{h: hunk(1, 1, " p", " q", "-a"), from: 1, fuzz: 0})
	// behind what a line of the hunk stands last
	findsNone(t, "ba.a", call{h: hunk(1, 1, "-b", "-a"), from: 1})
	findsNone(t, "a.ab..a", call{h: hunk(1, 1, "-a", "-b"), from: 3})
}

// AP1: old lines that are none match at every place from `from` to the end.
func TestFindWithoutOldLines(t *testing.T) {
	for at := range 8 {
		for from := -2; from < 8; from++ {
			for offset := -9; offset < 9; offset++ {
				c := call{h: hunk(at, 1, "+x", "+y"), from: from, offset: offset, fuzz: offset & 3}
				if from > 4 {
					findsNone(t, "abcd", c)
					continue
				}
				finds(t, "abcd", c, max(min(at+offset, 4), from, 0), 0)
			}
		}
	}
	for _, fuzz := range []int{-1, math.MinInt} {
		findsNone(t, "abcd", call{h: hunk(1, 1, "+x"), fuzz: fuzz})
	}
	finds(t, "", call{h: hunk(0, 1, "+x")}, 0, 0)
	finds(t, "", call{h: hunk(5, 1, "+x")}, 0, 0)
	findsNone(t, "", call{h: hunk(0, 1, "+x"), from: 1})
}

// AP1: old lines that are none once rows are left out.
func TestFindWithoutOldLinesLeft(t *testing.T) {
	ahead, behind, both := hunk(3, 3, " p", "+x"), hunk(3, 3, "+x", " q"), hunk(3, 3, " p", "+x", " q")
	findsNone(t, "abcd", call{h: ahead})
	finds(t, "abcd", call{h: ahead, fuzz: 1}, 2, 1)
	finds(t, "abcd", call{h: behind, fuzz: 1}, 2, 1)
	finds(t, "abcd", call{h: both, fuzz: 1}, 2, 1)
	// with the row ahead left out the place is one less
	for offset := -9; offset < 9; offset++ {
		finds(t, "abcd", call{h: ahead, offset: offset, fuzz: 3}, max(min(2+offset, 3), -1), 1)
		finds(t, "abcd", call{h: both, offset: offset, fuzz: 3}, max(min(2+offset, 3), -1), 1)
		finds(t, "abcd", call{h: behind, offset: offset, fuzz: 3}, max(min(2+offset, 4), 0), 1)
		finds(t, "abcd", call{h: both, from: 4, offset: offset, fuzz: 3}, 3, 1)
		findsNone(t, "abcd", call{h: both, from: 5, offset: offset, fuzz: 3})
	}
	finds(t, "", call{h: ahead, fuzz: 1}, -1, 1)
	finds(t, "", call{h: behind, fuzz: 1}, 0, 1)
	finds(t, "", call{h: hunk(1, 1, " p", " q", " r", "+x", " s"), fuzz: 3}, -3, 3)
	findsNone(t, "", call{h: hunk(1, 1, " p", " q", " r", "+x", " s"), fuzz: 2})
	// where they do match, no fuzz is taken, however far off
	finds(t, "....p", call{h: ahead, from: 1, fuzz: 3}, 4, 0)
}

// AP1: how many rows a fuzz leaves out, where it is below 0, between, the greatest and above.
func TestFindFuzz(t *testing.T) {
	ahead := []string{" a", " b", " c", "-d"}
	behind := []string{"-d", " e", " f", " g"}
	for most := range 4 {
		q := "..." + strings.Repeat("q", most) + "abc"[most:] + "d..."
		r := "...d" + "efg"[:3-most] + strings.Repeat("r", most) + "..."
		for fuzz := -2; fuzz < 7; fuzz++ {
			if fuzz < most {
				findsNone(t, q, call{h: hunk(4, 4, ahead...), fuzz: fuzz})
				findsNone(t, r, call{h: hunk(4, 4, behind...), fuzz: fuzz})
				continue
			}
			finds(t, q, call{h: hunk(4, 4, ahead...), fuzz: fuzz}, 3, most)
			finds(t, r, call{h: hunk(4, 4, behind...), fuzz: fuzz}, 3, most)
		}
		finds(t, q, call{h: hunk(4, 4, ahead...), fuzz: math.MaxInt}, 3, most)
		findsNone(t, q, call{h: hunk(4, 4, ahead...), fuzz: math.MinInt})
	}
	// a fourth row is never left out
	four := hunk(4, 4, " a", " b", " c", " d", "-e")
	for _, fuzz := range []int{3, 4, 5, api.MaxNumber, math.MaxInt} {
		finds(t, "...qqqde", call{h: four, fuzz: fuzz}, 3, 3)
		findsNone(t, "...qqqqe", call{h: four, fuzz: fuzz})
	}
}

// AP1: a fuzz above the context ahead, above that behind, above both.
func TestFindFuzzAboveContext(t *testing.T) {
	short, long := hunk(3, 3, " a", "-b", " c", " d", " e"), hunk(3, 3, " a", " b", " c", "-d", " e")
	// above the one ahead: what changes is not left out, more rows are behind
	finds(t, "..abcde", call{h: short, fuzz: 3}, 2, 0)
	finds(t, "..abcqq", call{h: short, fuzz: 3}, 2, 2)
	finds(t, "..qbqqq", call{h: short, fuzz: 3}, 2, 3)
	findsNone(t, "..aqcde", call{h: short, fuzz: 3})
	findsNone(t, "..abqqq", call{h: short, fuzz: 2})
	// above the one behind
	finds(t, "..qbcde", call{h: long, fuzz: 3}, 2, 1)
	finds(t, "..qqqdq", call{h: long, fuzz: 3}, 2, 3)
	findsNone(t, "..abcqe", call{h: long, fuzz: 3})
	findsNone(t, "..qqqde", call{h: long, fuzz: 2})
	// above both, and without any
	finds(t, "..qbq", call{h: hunk(3, 3, " a", "-b", " c"), fuzz: 3}, 2, 1)
	findsNone(t, "..aqc", call{h: hunk(3, 3, " a", "-b", " c"), fuzz: 3})
	finds(t, "..b", call{h: hunk(3, 3, "-b"), fuzz: 3}, 2, 0)
	findsNone(t, "..q", call{h: hunk(3, 3, "-b"), fuzz: 3})
	// rows of both between the changes are no context of either
	findsNone(t, "aqc", call{h: hunk(1, 1, "-a", " b", "+x", " c"), fuzz: 3})
	finds(t, "abq", call{h: hunk(1, 1, "-a", " b", "+x", " c"), fuzz: 3}, 0, 1)
}

// AP1: the least fuzz that has any place comes ahead of a nearer place.
func TestFindLeastFuzz(t *testing.T) {
	h := hunk(1, 1, " a", " b", "-c", " d", " e")
	finds(t, "qbcdq...abcde", call{h: h, fuzz: 3}, 8, 0)
	finds(t, "qbcdq...abcde", call{h: h, from: 1, fuzz: 3}, 8, 0)
	finds(t, "qqcqq.qbcdq..", call{h: h, fuzz: 3}, 6, 1)
	finds(t, "abcdq.qbcde.qqcqq", call{h: h, offset: 12, fuzz: 3}, 6, 1)
	finds(t, "abcdq.qbcde.qqcqq", call{h: h, fuzz: 3}, 0, 1)
	finds(t, "abcdq.qbcde.qqcqq", call{h: h, from: 9, fuzz: 3}, 12, 2)
	// with all of them at one place: of the least fuzz
	finds(t, "cccc", call{h: hunk(1, 1, " c", " c", "-c", " c", " c"), fuzz: 3}, 0, 1)
	finds(t, "ccccc", call{h: hunk(1, 1, " c", " c", "-c", " c", " c"), fuzz: 3}, 0, 0)
	finds(t, "ccc", call{h: hunk(1, 1, " c", " c", "-c", " c", " c"), fuzz: 3}, -1, 1)
	finds(t, "cc", call{h: hunk(1, 1, " c", " c", "-c", " c", " c"), fuzz: 3}, -1, 2)
	findsNone(t, "cc", call{h: hunk(1, 1, " c", " c", "-c", " c", " c"), fuzz: 1})
}

// AP1: a place below 0, where rows are left out at the beginning, and which of several is the nearest then.
func TestFindBelowNothing(t *testing.T) {
	h := hunk(1, 1, " a", " b", " c", "-d")
	finds(t, "cd", call{h: h, fuzz: 2}, -2, 2)
	finds(t, "cd.cd", call{h: h, fuzz: 2}, 1, 2)
	finds(t, "cd..cd", call{h: h, fuzz: 2, offset: -1}, -2, 2)
	finds(t, "cd..cd", call{h: h, fuzz: 2, offset: 1}, 2, 2)
	// as near on both sides of the stated place and offset together
	finds(t, "cd..cd", call{h: h, fuzz: 2}, -2, 2)
	finds(t, "d.....d", call{h: h, fuzz: 3}, -3, 3)
	finds(t, "d....d", call{h: h, fuzz: 3}, 2, 3)
	finds(t, "d", call{h: h, fuzz: 3, offset: math.MinInt}, -3, 3)
	finds(t, "d", call{h: h, fuzz: 3, offset: math.MaxInt}, -3, 3)
	finds(t, "d", call{h: h, fuzz: 3, from: math.MinInt, offset: -7}, -3, 3)
}

// AP1: hunks that may not be, though their lines stand there.
func TestFindOfBadHunks(t *testing.T) {
	for _, bad := range badHunks() {
		for _, fuzz := range []int{0, 1, 3} {
			findsNone(t, "ababa", call{h: bad, fuzz: fuzz})
			findsNone(t, "", call{h: bad, fuzz: fuzz})
			findsNone(t, "ababa", call{h: bad, from: math.MinInt, offset: math.MaxInt, fuzz: fuzz})
		}
	}
	finds(t, "ababa", call{h: hunk(1, 1, " a", "-b", "+x")}, 0, 0)
	// the greatest A that may be, and one more
	finds(t, "ababa", call{h: hunk(api.MaxNumber-2, 1, " a", "-b", "+x")}, 2, 0)
	findsNone(t, "ababa", call{h: hunk(api.MaxNumber-1, 1, " a", "-b", "+x")})
	finds(t, "ababa", call{h: hunk(api.MaxNumber, 1, "+x")}, 5, 0)
	findsNone(t, "ababa", call{h: hunk(api.MaxNumber+1, 1, "+x")})
	findsNone(t, "ababa", call{h: hunk(-1, 1, "+x")})
}

// AP1: old is any list of strings: it need not be a text's lines.
func TestFindInAnyStrings(t *testing.T) {
	for _, c := range []struct {
		old   []string
		place int
		found bool
	}{
		{[]string{"", "a", "b\n", "a\n", "b\n"}, 3, true},
		{[]string{"a\nb\n", "", "a\n", "b\n"}, 2, true},
		{[]string{"a\nb\n"}, 0, false},
		{[]string{"a", "b\n"}, 0, false},
		{[]string{"a\n", "", "b\n"}, 0, false},
		{nil, 0, false},
	} {
		place, fuzz, found := Find(c.old, hunk(1, 1, " a", "-b"), 0, 0, 0)
		if place != c.place || fuzz != 0 || found != c.found {
			t.Errorf("%q: %d, %d, %v", c.old, place, fuzz, found)
		}
	}
}
