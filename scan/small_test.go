package scan

import (
	"slices"
	"strings"
	"testing"
)

// steps are numbers that look like chance, the same ones each time.
type steps uint64

// below is the next number, from 0 to n - 1.
func (s *steps) below(n int) int {
	*s = *s*6364136223846793005 + 1442695040888963407
	return int(uint64(*s) >> 33 % uint64(n))
}

// smallTexts are all texts of some bytes, up to a length.
func smallTexts(bytes string, length int) []string {
	l := []string{""}
	for from := 0; length > 0; length-- {
		end := len(l)
		for _, text := range l[from:end] {
			for i := range bytes {
				l = append(l, text+bytes[i:i+1])
			}
		}
		from = end
	}
	return l
}

// someTexts are two texts that often are the same for a while, of bytes of which many are 10.
func someTexts(next *steps) (string, string) {
	few := "\n\nab\x00\xff"
	text := func(n int) []byte {
		var l []byte
		for range n {
			l = append(l, few[next.below(len(few))])
		}
		return l
	}
	a := text(next.below(60))
	b := slices.Clone(a)
	for range next.below(6) {
		if len(b) > 0 {
			from := next.below(len(b))
			copy(b[from:], text(next.below(8)))
		}
	}
	switch next.below(3) {
	case 0:
		a = append(a, text(next.below(4))...)
	case 1:
		b = append(b, text(next.below(4))...)
	}
	return string(a), string(b)
}

// eachPair hands on pairs of texts: all small ones, and many longer ones.
func eachPair(t *testing.T, hand func(a, b string)) {
	t.Helper()
	small := smallTexts("\nab", 4)
	small = append(small, smallTexts("\n\xff", 6)...)
	for _, a := range small {
		for _, b := range small {
			hand(a, b)
		}
		if t.Failed() {
			return
		}
	}
	next := steps(3)
	for range 20000 {
		hand(someTexts(&next))
		if t.Failed() {
			return
		}
	}
}

// SC1, SC2, SC5: what is told is what the words say, with each number of places.
func TestByWords(t *testing.T) {
	eachPair(t, func(a, b string) {
		for most := -1; most <= 4; most++ {
			if got, want := told(a, b, most), toldByWords(a, b, most); got != want {
				t.Errorf("%q, %q, %d: %s, not %s", a, b, most, got, want)
			}
		}
	})
}

// SC4: First is found just where the texts differ within the length of the shorter one, and is the first of All.
func TestFirstIsTheFirstOfAll(t *testing.T) {
	eachPair(t, func(a, b string) {
		u, found, _ := First(a, b)
		if short := min(len(a), len(b)); found != (a[:short] != b[:short]) {
			t.Errorf("First(%q, %q): %v", a, b, found)
		}
		for _, most := range []int{-1, 1, 2} {
			all := All(a, b, most)
			if found != (len(all) > 0) || found && all[0] != u {
				t.Errorf("First(%q, %q): %v, %v, beside %v", a, b, u, found, all)
			}
		}
	})
}

// turned is a place as it is found with the texts exchanged: the line is that of the text that is a then.
func turned(u Unlike, b string) Unlike {
	return Unlike{u.Offset, 1 + strings.Count(b[:u.Offset-1], "\n"), u.B, u.A}
}

// SC4: with a and b exchanged the offsets are the same, and the bytes are exchanged, place by place; the ends are told from the other side.
func TestExchanged(t *testing.T) {
	ends := []int{0, 2, 1}
	eachPair(t, func(a, b string) {
		u, found, end := First(a, b)
		v, foundThere, endThere := First(b, a)
		if found {
			u = turned(u, b)
		}
		if u != v || found != foundThere || endThere != ends[end] {
			t.Errorf("First(%q, %q): %v, %v, %d, not %v, %v, %d", b, a, v, foundThere, endThere, u, found, ends[end])
		}
		// up to the first place a and b are the same, so that its line is the same on both sides
		if w, _, _ := First(a, b); w.Line != v.Line {
			t.Errorf("First(%q, %q): %v and %v", a, b, w, v)
		}
		for most := -1; most <= 3; most++ {
			var want []Unlike
			for _, place := range All(a, b, most) {
				want = append(want, turned(place, b))
			}
			isAll(t, b, a, most, want...)
			isRuns(t, b, a, most, Runs(a, b, most)...)
		}
	})
}

// SC5: the runs are the places of All, each once and in order; between two of them there is a byte that is the same.
func TestRunsAreThePlaces(t *testing.T) {
	eachPair(t, func(a, b string) {
		var offsets, want []int
		end := 0
		for _, run := range Runs(a, b, -1) {
			if run.Count < 1 || end > 0 && run.Offset <= end+1 {
				t.Errorf("%q, %q: a run %v behind %d", a, b, run, end)
			}
			for i := range run.Count {
				offsets = append(offsets, run.Offset+i)
			}
			end = run.Offset + run.Count - 1
		}
		for _, u := range All(a, b, -1) {
			want = append(want, u.Offset)
		}
		if !slices.Equal(offsets, want) {
			t.Errorf("%q, %q: runs of %v, not %v", a, b, offsets, want)
		}
	})
}
