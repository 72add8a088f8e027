package merge

import (
	"errors"
	"fmt"
	"selvage/api"
	"selvage/lines"
	"slices"
	"strings"
	"testing"
)

// script are changes by their numbers, A, N, B, M.
func script(numbers ...[4]int) []api.Change {
	var s []api.Change
	for _, c := range numbers {
		s = append(s, api.Change{A: c[0], N: c[1], B: c[2], M: c[3]})
	}
	return s
}

// textOf are lines that are told by a letter each; behind the last one `|` takes its end away.
func textOf(letters string) []string {
	var l []string
	for _, letter := range letters {
		if letter == '|' {
			l[len(l)-1] = strings.TrimSuffix(l[len(l)-1], "\n")
			continue
		}
		l = append(l, string(letter)+"\n")
	}
	return l
}

// put is a change of a base: n lines go from a place on, and lines come there, told by letters.
type put struct {
	at, n int
	come  string
}

// side is a script from a base, and the lines to which it leads.
type side struct {
	s     []api.Change
	lines []string
}

// made is what changes make of a base.
func made(base string, puts ...put) side {
	old := textOf(base)
	var x side
	at := 0
	for _, p := range puts {
		x.lines = append(x.lines, old[at:p.at]...)
		come := textOf(p.come)
		x.s = append(x.s, api.Change{A: p.at, N: p.n, B: len(x.lines), M: len(come)})
		x.lines = append(x.lines, come...)
		at = p.at + p.n
	}
	x.lines = append(x.lines, old[at:]...)
	return x
}

// given is what calls are given.
type given struct {
	base        []string
	mine, yours side
}

// of is a base with what changes make of it.
func of(base string, mine, yours []put) given {
	return given{textOf(base), made(base, mine...), made(base, yours...)}
}

// exchanged is the same with mine and yours exchanged.
func (g given) exchanged() given {
	return given{g.base, g.yours, g.mine}
}

// String is what calls are given as a test tells it.
func (g given) String() string {
	return fmt.Sprintf("base %.300q, mine %.300v %.300q, yours %.300v %.300q", g.base, fmt.Sprint(g.mine.s), g.mine.lines, fmt.Sprint(g.yours.s), g.yours.lines)
}

// chunks asks Chunks.
func (g given) chunks() ([]Chunk, error) {
	return Chunks(g.mine.s, g.yours.s, g.base, g.mine.lines, g.yours.lines)
}

// merge asks Merge.
func (g given) merge(labels []string, format int) (string, int, error) {
	return Merge(g.mine.s, g.yours.s, g.base, g.mine.lines, g.yours.lines, labels, format)
}

// diff3 asks Diff3.
func (g given) diff3() (string, error) {
	return Diff3(g.mine.s, g.yours.s, g.base, g.mine.lines, g.yours.lines)
}

// onto asks Onto.
func (g given) onto(labels []string, format int) ([]api.Change, []string, error) {
	return Onto(g.mine.s, g.yours.s, g.base, g.mine.lines, g.yours.lines, labels, format)
}

// myLabels are labels that may be.
func myLabels() []string {
	return []string{"m", "b", "y"}
}

// isErr fails where an error is not the one that is wanted.
func isErr(t *testing.T, what string, err, want error) {
	t.Helper()
	if want == nil && err != nil || !errors.Is(err, want) {
		t.Errorf("%s: %v, not %v", what, err, want)
	}
}

// cuts fails where Chunks does not answer what is wanted.
func cuts(t *testing.T, what string, g given, want ...Chunk) {
	t.Helper()
	got, err := g.chunks()
	if err != nil || !slices.Equal(got, want) {
		t.Errorf("%s: Chunks of %v: %v, %v, not %v", what, g, got, err, want)
	}
}

// merges fails where Merge does not answer the text and the number that are wanted.
func merges(t *testing.T, what string, g given, format int, want string, clashes int) {
	t.Helper()
	got, n, err := g.merge(myLabels(), format)
	if err != nil || got != want || n != clashes {
		t.Errorf("%s: Merge of %v with format %d: %.400q, %d, %v, not %.400q, %d", what, g, format, got, n, err, want, clashes)
	}
}

// tells fails where Diff3 does not answer the lines that are wanted.
func tells(t *testing.T, what string, g given, want ...string) {
	t.Helper()
	text := ""
	for _, line := range want {
		text += line + "\n"
	}
	got, err := g.diff3()
	if err != nil || got != text {
		t.Errorf("%s: Diff3 of %v: %.400q, %v, not %.400q", what, g, got, err, text)
	}
}

// leads fails where Onto does not answer the script and the lines that are wanted.
func leads(t *testing.T, what string, g given, format int, want []api.Change, text string) {
	t.Helper()
	s, l, err := g.onto(myLabels(), format)
	if err != nil || !slices.Equal(s, want) || !slices.Equal(l, lines.Split(text)) {
		t.Errorf("%s: Onto of %v with format %d: %v, %.400q, %v, not %v, %.400q", what, g, format, s, l, err, want, text)
	}
}

// fails fails where a call does not answer the error that is wanted, or something beside it; Chunks and Diff3 are asked too, unless the error is Merge's own.
func fails(t *testing.T, what string, g given, labels []string, format int, want error, mergeAlone bool) {
	t.Helper()
	text, n, err := g.merge(labels, format)
	isErr(t, what+": Merge", err, want)
	s, l, ontoErr := g.onto(labels, format)
	isErr(t, what+": Onto", ontoErr, want)
	if text != "" || n != 0 || len(s)+len(l) != 0 {
		t.Errorf("%s: %.100q, %d, %.100v, %.100q beside an error", what, text, n, s, l)
	}
	if mergeAlone {
		return
	}
	c, err := g.chunks()
	isErr(t, what+": Chunks", err, want)
	told, tellErr := g.diff3()
	isErr(t, what+": Diff3", tellErr, want)
	if len(c) != 0 || told != "" {
		t.Errorf("%s: %.100v, %.100q beside an error", what, c, told)
	}
}

// steps are numbers that look like chance, the same ones each time.
type steps uint64

// below is the next number, from 0 to n - 1.
func (s *steps) below(n int) int {
	*s = *s*6364136223846793005 + 1442695040888963407
	return int(uint64(*s) >> 33 % uint64(n))
}

// The chapter's examples.
func TestExamples(t *testing.T) {
	base := "12345"
	x := []put{{1, 1, "x"}}
	merges(t, "apart", of(base, x, []put{{4, 1, "y"}}), 1, "1\nx\n3\n4\ny\n", 0)
	merges(t, "at the same place", of(base, x, []put{{1, 1, "z"}}), 1, "1\n<<<<<<< m\nx\n=======\nz\n>>>>>>> y\n3\n4\n5\n", 1)
	merges(t, "that touch", of(base, x, []put{{2, 1, "w"}}), 1, "1\n<<<<<<< m\nx\n3\n=======\n2\nw\n>>>>>>> y\n4\n5\n", 1)
}
