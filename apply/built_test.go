package apply

import (
	"fmt"
	"selvage/api"
	"selvage/hunks"
	"slices"
	"testing"
)

// stays is the edit script that lets lines of two texts stay, two and two.
func stays(pairs [][2]int, n, m int) []api.Change {
	var s []api.Change
	a, b := 0, 0
	for _, p := range append(slices.Clone(pairs), [2]int{n, m}) {
		if p[0] > a || p[1] > b {
			s = append(s, api.Change{A: a, N: p[0] - a, B: b, M: p[1] - b})
		}
		a, b = p[0]+1, p[1]+1
	}
	return s
}

// eachScript hands on all normal edit scripts from a text to another one that let no line stay for another one.
func eachScript(a, b []string, take func(s []api.Change)) {
	var pairs [][2]int
	var from func(i, k int)
	from = func(i, k int) {
		take(stays(pairs, len(a), len(b)))
		for x := i; x < len(a); x++ {
			for y := k; y < len(b); y++ {
				if a[x] == b[y] {
					pairs = append(pairs, [2]int{x, y})
					from(x+1, y+1)
					pairs = pairs[:len(pairs)-1]
				}
			}
		}
	}
	from(0, 0)
}

// built are the hunks of a script.
func built(t *testing.T, s []api.Change, a, b []string, context int) []api.Hunk {
	t.Helper()
	l, err := hunks.Build(s, a, b, context)
	isErr(t, fmt.Sprintf("%v of %q and %q", s, a, b), err, nil)
	return l
}

// turned are hunks the other way round.
func turned(l []api.Hunk) []api.Hunk {
	var back []api.Hunk
	for _, h := range l {
		back = append(back, hunks.Reverse(h))
	}
	return back
}

// exact are the Hits of hunks in order, each of which stands where it says.
func exact(l []api.Hunk) []Hit {
	var hits []Hit
	for i, h := range l {
		line := h.B
		if h.M == 0 {
			line++
		}
		hits = append(hits, Hit{Hunk: i, Line: line})
	}
	return hits
}

// leads fails where the hunks of a script do not make the new text of the old one, and the old one of the new one, with a fuzz.
func leads(t *testing.T, a, b []string, l []api.Hunk, fuzz int) {
	t.Helper()
	if got := apply(a, l, fuzz); !got.same(answer{lines: b, hits: exact(l)}) {
		t.Fatalf("%s: %v, not %q", called(a, l, fuzz), got, b)
	}
	back := turned(l)
	if got := apply(b, back, fuzz); !got.same(answer{lines: a, hits: exact(back)}) {
		t.Fatalf("%s: %v, not %q", called(b, back, fuzz), got, a)
	}
}

// wasApplied fails where hunks of a script with a change are not told as applied of the new text, or turned round of the old one.
func wasApplied(t *testing.T, a, b []string, l []api.Hunk) {
	t.Helper()
	if Already(b, l) != (len(l) > 0) || Already(a, turned(l)) != (len(l) > 0) {
		t.Fatalf("%q are not told as applied: %q, %q", fmt.Sprint(l), a, b)
	}
	_, hits, rejects, err := Apply(a, turned(l), 0)
	atTheirPlaces := err == nil && len(rejects) == 0 && len(l) > 0
	for _, hit := range hits {
		atTheirPlaces = atTheirPlaces && hit.Offset == 0
	}
	if Already(a, l) != atTheirPlaces {
		t.Fatalf("%q of the old text %q: %v", fmt.Sprint(l), a, !atTheirPlaces)
	}
}

// AP3, AP4: all scripts between all small texts, with every context and fuzz.
func TestBuiltOfAllSmall(t *testing.T) {
	texts := smallTexts("ab", 3, true)
	for _, a := range texts {
		for _, b := range texts {
			eachScript(a, b, func(s []api.Change) {
				for context := range 4 {
					l := built(t, s, a, b, context)
					for fuzz := range api.MaxFuzz + 1 {
						leads(t, a, b, l, fuzz)
					}
					wasApplied(t, a, b, l)
				}
			})
		}
	}
}

// AP4: all small scripts of lines that are unlike one another, whatever stays.
func TestBuiltOfUnlikeLines(t *testing.T) {
	for n := range 6 {
		for stay := range 1 << n {
			for places := range 2 << n {
				a := textOf("abcde"[:n])
				var b []string
				for i := range n + 1 {
					if places>>i&1 > 0 {
						b = append(b, fmt.Sprintln("new", i))
					}
					if stay>>i&1 > 0 {
						b = append(b, a[i])
					}
				}
				eachScript(a, b, func(s []api.Change) {
					context := (stay + places) % 4
					l := built(t, s, a, b, context)
					leads(t, a, b, l, places%4)
					wasApplied(t, a, b, l)
				})
			}
		}
	}
}

// change is a text with some of its lines gone and some come, and the script that does it.
func (s *steps) change(a []string, kinds int) ([]string, []api.Change) {
	var b []string
	var pairs [][2]int
	for i, line := range a {
		switch s.below(8) {
		case 0:
			continue
		case 1:
			b = append(b, string(rune('a'+s.below(kinds)))+"\n")
		}
		pairs = append(pairs, [2]int{i, len(b)})
		b = append(b, line)
	}
	if len(a) == 0 || a[len(a)-1][len(a[len(a)-1])-1] == '\n' {
		b = append(b, s.someText(2, kinds)...)
	}
	return b, stays(pairs, len(a), len(b))
}

// AP3, AP4: longer texts, of few kinds of lines and of many.
func TestBuiltOfMany(t *testing.T) {
	next := steps(3)
	for range 20000 {
		kinds := 1 + next.below(26)
		a := next.someText(80, kinds)
		b, s := next.change(a, kinds)
		l := built(t, s, a, b, next.below(6))
		leads(t, a, b, l, next.below(4))
		wasApplied(t, a, b, l)
	}
}

// P6: hunks of a text to which lines came ahead, or of which some went, and which is another one here and there: each lands, or is a reject, as the words say.
func TestBuiltOnOtherTexts(t *testing.T) {
	next := steps(4)
	offsets, fuzzes, rejects := 0, 0, 0
	for range 20000 {
		kinds := 2 + next.below(25)
		a := next.someText(60, kinds)
		b, s := next.change(a, kinds)
		l := built(t, s, a, b, next.below(4))
		other, _ := next.change(a, kinds)
		got := doesByWords(t, other, l, next.below(4))
		for _, hit := range got.hits {
			if hit.Offset != 0 {
				offsets++
			}
			if hit.Fuzz > 0 {
				fuzzes++
			}
		}
		rejects += len(got.rejects)
	}
	if min(offsets, fuzzes, rejects) < 1000 {
		t.Error(offsets, "with an offset,", fuzzes, "with a fuzz,", rejects, "rejects")
	}
}
