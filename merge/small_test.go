package merge

import (
	"fmt"
	"selvage/api"
	"selvage/lines"
	"slices"
	"strings"
	"testing"
)

// normalScripts are all normal edit scripts from n lines to m.
func normalScripts(n, m int) [][]api.Change {
	var all [][]api.Change
	var ahead []api.Change
	var from func(a, b int)
	from = func(a, b int) {
		// a change comes behind any number of lines that stay, at least one, if there is a change ahead
		least := min(1, len(ahead))
		for stay := least; a+stay <= n && b+stay <= m; stay++ {
			for gone := range n - a - stay + 1 {
				for come := range m - b - stay + 1 {
					if gone+come > 0 {
						ahead = append(ahead, api.Change{A: a + stay, N: gone, B: b + stay, M: come})
						from(a+stay+gone, b+stay+come)
						ahead = ahead[:len(ahead)-1]
					}
				}
			}
		}
		if n-a == m-b {
			all = append(all, slices.Clone(ahead))
		}
	}
	from(0, 0)
	return all
}

// brought are all lists of n lines of letters.
func brought(n int, letters string) [][]string {
	all := [][]string{nil}
	for range n {
		var longer [][]string
		for _, l := range all {
			for _, letter := range letters {
				longer = append(longer, append(slices.Clone(l), string(letter)+"\n"))
			}
		}
		all = longer
	}
	return all
}

// sidesOf are all sides of a base with at most so many lines, those that come being of letters; the last line with its end and without it, if it comes.
func sidesOf(base []string, most int, letters string) []side {
	var all []side
	for m := range most + 1 {
		for _, s := range normalScripts(len(base), m) {
			come := 0
			for _, c := range s {
				come += c.M
			}
			for _, fresh := range brought(come, letters) {
				all = append(all, withEnds(s, base, fresh)...)
			}
		}
	}
	return all
}

// withEnds are the sides of a base by a script and the lines that come: as they are and with the last one cut, as far as these are texts to which the script leads.
func withEnds(s []api.Change, base, come []string) []side {
	var l []string
	at := 0
	for _, c := range s {
		l = append(l, base[at:c.A]...)
		l = append(l, come[:c.M]...)
		come = come[c.M:]
		at = c.A + c.N
	}
	l = append(l, base[at:]...)
	var all []side
	if lines.Valid(l) {
		all = append(all, side{s, l})
	}
	if at == len(base) && len(s) > 0 && s[len(s)-1].M > 0 {
		cut := slices.Clone(l)
		cut[len(cut)-1] = lines.Bare(cut[len(cut)-1])
		if lines.Valid(cut) {
			all = append(all, side{s, cut})
		}
	}
	return all
}

// eachSmall hands on all pairs of sides of small bases, until one makes a test fail.
func eachSmall(t *testing.T, take func(g given)) {
	t.Helper()
	n := 0
	for _, c := range []struct {
		base    string
		most    int
		letters string
	}{
		{"", 3, "xy"}, {"1", 3, "x1"}, {"1|", 3, "x1"}, {"12", 3, "x2"}, {"12|", 3, "x2"}, {"11", 3, "x1"}, {"123", 3, "x3"}, {"123|", 2, "x3"}, {"1234", 4, "x"},
	} {
		base := textOf(c.base)
		sides := sidesOf(base, c.most, c.letters)
		for _, mine := range sides {
			for _, yours := range sides {
				take(given{base, mine, yours})
				n++
				if t.Failed() {
					t.FailNow()
				}
			}
		}
	}
	if n < 50000 {
		t.Error("only", n)
	}
}

// agrees fails where a call does not answer what the chapter's words ask for.
func agrees(t *testing.T, g given, labels []string) {
	t.Helper()
	want := chunksByWords(g)
	cuts(t, "by words", g, want...)
	told, err := g.diff3()
	if text := diff3ByWords(g, want); err != nil || told != text {
		t.Errorf("Diff3 of %v: %q, %v, not %q", g, told, err, text)
	}
	for format := 1; format <= 5; format++ {
		pieces := piecesByWords(g, want, labels, format)
		text := strings.Join(pieces, "")
		got, n, err := g.merge(labels, format)
		if clashes := clashesByWords(want, format); err != nil || got != text || n != clashes {
			t.Errorf("Merge of %v with format %d: %q, %d, %v, not %q, %d", g, format, got, n, err, text, clashes)
		}
		s, l, err := g.onto(labels, format)
		if script := ontoByWords(g, want, pieces); err != nil || !slices.Equal(s, script) || !slices.Equal(l, lines.Split(text)) {
			t.Errorf("Onto of %v with format %d: %v, %q, %v, not %v, %q", g, format, s, l, err, script, text)
		}
	}
}

// ME1, ME2, ME6, ME7: all small texts and scripts, held against plain readings.
func TestSmallByWords(t *testing.T) {
	labels := []string{"one", "", "x"}
	eachSmall(t, func(g given) { agrees(t, g, labels) })
}

// randomSide is some side of a base: lines that stay, and changes of at most three lines, that may touch.
func randomSide(next *steps, base []string, letters string) side {
	var x side
	for at := 0; at <= len(base); {
		if at < len(base) && next.below(3) > 0 {
			x.lines = append(x.lines, base[at])
			at++
			continue
		}
		c := api.Change{A: at, N: next.below(min(len(base)-at, 3) + 1), B: len(x.lines), M: next.below(4)}
		for range c.M {
			i := next.below(len(letters))
			x.lines = append(x.lines, letters[i:i+1]+"\n")
		}
		if c.N+c.M > 0 {
			x.s = append(x.s, c)
		}
		at += c.N
		if at == len(base) && next.below(2) > 0 {
			break
		}
	}
	return x
}

// ME1, ME2, ME6, ME7: longer texts, with rows of changes that meet and touch, held against plain readings.
func TestLongerByWords(t *testing.T) {
	next := steps(3)
	kinds := map[int]int{}
	for range 10000 {
		base := textOf("abcabcdabcabcdeabc"[:next.below(19)])
		g := given{base, randomSide(&next, base, "abx"), randomSide(&next, base, "abx")}
		if next.below(8) == 0 {
			g.yours = g.mine
		}
		agrees(t, g, myLabels())
		for _, c := range chunksByWords(g) {
			kinds[c.Kind]++
		}
		if t.Failed() {
			return
		}
	}
	for kind := Calm; kind <= Clash; kind++ {
		if kinds[kind] < 500 {
			t.Error("only", kinds[kind], "of kind", kind)
		}
	}
}

// eachTouching hands on a script, and with it all that say the same with changes cut in two that touch.
func eachTouching(s []api.Change, take func(s []api.Change)) {
	take(s)
	for i, c := range s {
		for n := range c.N + 1 {
			for m := range c.M + 1 {
				if n+m == 0 || n+m == c.N+c.M {
					continue
				}
				take(slices.Concat(s[:i], script([4]int{c.A, n, c.B, m}, [4]int{c.A + n, c.N - n, c.B + m, c.M - m}), s[i+1:]))
			}
		}
	}
}

// ME1: scripts are taken normal: changes that touch are as one.
func TestScriptsAreTakenNormal(t *testing.T) {
	n := 0
	for _, base := range []string{"", "1", "123"} {
		sides := sidesOf(textOf(base), 2, "x")
		for _, mine := range sides {
			for _, yours := range sides {
				g := given{textOf(base), mine, yours}
				want := fmt.Sprint(all(g))
				eachTouching(mine.s, func(s []api.Change) {
					eachTouching(yours.s, func(u []api.Change) {
						n++
						if got := fmt.Sprint(all(given{g.base, side{s, mine.lines}, side{u, yours.lines}})); got != want {
							t.Errorf("%v %v: %s, not %s", s, u, got, want)
						}
					})
				})
			}
		}
	}
	if n < 5000 {
		t.Error("only", n)
	}
}

// all is what all calls answer.
func all(g given) []any {
	var answers []any
	add := func(some ...any) { answers = append(answers, some...) }
	chunks, err := g.chunks()
	add(chunks, err)
	told, err := g.diff3()
	add(told, err)
	for format := range 7 {
		text, n, err := g.merge(myLabels(), format)
		add(text, n, err)
		s, l, err := g.onto(myLabels(), format)
		add(s, l, err)
	}
	return answers
}
