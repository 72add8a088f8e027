package merge

import (
	"selvage/api"
	"selvage/edits"
	"selvage/lines"
	"slices"
	"strings"
	"testing"
)

// mustMerge is the merged text, and how many conflicts there are.
func mustMerge(t *testing.T, g given, format int) (string, int) {
	t.Helper()
	text, n, err := g.merge(myLabels(), format)
	if err != nil {
		t.Fatalf("Merge of %v with format %d: %v", g, format, err)
	}
	return text, n
}

// mustChunks are the chunks.
func mustChunks(t *testing.T, g given) []Chunk {
	t.Helper()
	l, err := g.chunks()
	if err != nil {
		t.Fatalf("Chunks of %v: %v", g, err)
	}
	return l
}

// hasClash tells whether one of the chunks is a Clash.
func hasClash(l []Chunk) bool {
	return slices.ContainsFunc(l, func(c Chunk) bool { return c.Kind == Clash })
}

// ME3: the chunks cover each text from its beginning to its end, without a gap, and are what their kinds say.
func TestChunksCover(t *testing.T) {
	eachSmall(t, func(g given) {
		var end Chunk
		for _, c := range mustChunks(t, g) {
			if c.Base != end.Base || c.Mine != end.Mine || c.Yours != end.Yours {
				t.Fatalf("%v: a gap ahead of %v", g, c)
			}
			if c.BaseN < 0 || c.MineN < 0 || c.YourN < 0 || c.BaseN+c.MineN+c.YourN == 0 {
				t.Fatalf("%v: no lines in %v", g, c)
			}
			mine, base, yours := g.textOf(c, 1), g.textOf(c, 2), g.textOf(c, 3)
			if c.Kind == Calm && (mine != base || yours != base) || c.Kind == Mine && yours != base || c.Kind == Yours && mine != base ||
				c.Kind == Both && mine != yours || c.Kind == Clash && mine == yours {
				t.Fatalf("%v: %v is not of its kind", g, c)
			}
			end = Chunk{Base: c.Base + c.BaseN, Mine: c.Mine + c.MineN, Yours: c.Yours + c.YourN}
		}
		if end.Base != len(g.base) || end.Mine != len(g.mine.lines) || end.Yours != len(g.yours.lines) {
			t.Fatalf("%v: covered up to %v", g, end)
		}
	})
}

// ME1, ME2: changed chunks have a calm line between them, so that a line that is not whole ends none but the last chunk.
func TestCalmLinesBetween(t *testing.T) {
	eachSmall(t, func(g given) {
		l := mustChunks(t, g)
		for i, c := range l {
			if i > 0 && (c.Kind == Calm) == (l[i-1].Kind == Calm) {
				t.Fatalf("%v: %v behind %v", g, c, l[i-1])
			}
			for number := 1; number <= 3 && i < len(l)-1; number++ {
				if text := g.textOf(c, number); ended(text) != text {
					t.Fatalf("%v: a line without an end in %v", g, c)
				}
			}
		}
	})
}

// ME3, P14: a side that changes nothing leaves the other one's text; the same change twice is one.
func TestMergeOfOneChange(t *testing.T) {
	n := 0
	alone := func(g given, want []string) {
		n++
		for format := formatTwo; format <= formatYours; format++ {
			if text, clashes := mustMerge(t, g, format); text != strings.Join(want, "") || clashes != 0 {
				t.Fatalf("%v: %q, %d conflicts", g, text, clashes)
			}
		}
	}
	eachSmall(t, func(g given) {
		if len(g.mine.s) == 0 {
			alone(g, g.yours.lines)
		}
		if len(g.yours.s) == 0 {
			alone(g, g.mine.lines)
		}
		if slices.Equal(g.mine.s, g.yours.s) && slices.Equal(g.mine.lines, g.yours.lines) {
			alone(g, g.mine.lines)
		}
	})
	if n < 1000 {
		t.Error("only", n)
	}
}

// ME3, P14: with mine and yours exchanged the chunks are the same, and without a clash the text.
func TestSidesExchanged(t *testing.T) {
	eachSmall(t, func(g given) {
		l := mustChunks(t, g)
		if other := mustChunks(t, g.exchanged()); !slices.Equal(other, exchangedChunks(l)) {
			t.Fatalf("%v: %v, exchanged %v", g, l, other)
		}
		for format := formatTwo; format <= formatThree; format++ {
			text, n := mustMerge(t, g, format)
			other, m := mustMerge(t, g.exchanged(), format)
			if n != m || (n > 0) != hasClash(l) || n == 0 && text != other {
				t.Fatalf("%v: %q, %d, exchanged %q, %d", g, text, n, other, m)
			}
			if swapped := toldOf(t, text, format).swapped(); !slices.EqualFunc(swapped, toldOf(t, other, format), conflict.isLike) {
				t.Fatalf("%v: %q, exchanged %q", g, text, other)
			}
		}
	})
}

// conflict is what a text tells of a clash, and the lines ahead of it.
type conflict struct {
	ahead, mine, base, yours []string
}

// isLike tells whether two of them tell the same.
func (c conflict) isLike(d conflict) bool {
	return slices.Equal(c.ahead, d.ahead) && slices.Equal(c.mine, d.mine) && slices.Equal(c.base, d.base) && slices.Equal(c.yours, d.yours)
}

// conflictsOf are what a text tells of its clashes, one behind the other; the last one is what is behind them all.
type conflictsOf []conflict

// swapped are the same with mine and yours exchanged.
func (l conflictsOf) swapped() conflictsOf {
	var other conflictsOf
	for _, c := range l {
		other = append(other, conflict{c.ahead, c.yours, c.base, c.mine})
	}
	return other
}

// toldOf reads a text of one of the first two formats by its marks, where no other line looks like one.
func toldOf(t *testing.T, text string, format int) conflictsOf {
	t.Helper()
	l := conflictsOf{{}}
	to := &l[0].ahead
	next := "<<<<<<< m\n"
	for _, line := range lines.Split(text) {
		last := &l[len(l)-1]
		if line != next {
			*to = append(*to, line)
			continue
		}
		switch line {
		case "<<<<<<< m\n":
			to, next = &last.mine, "=======\n"
			if format == formatThree {
				next = "||||||| b\n"
			}
		case "||||||| b\n":
			to, next = &last.base, "=======\n"
		case "=======\n":
			to, next = &last.yours, ">>>>>>> y\n"
		default:
			l = append(l, conflict{})
			to, next = &l[len(l)-1].ahead, "<<<<<<< m\n"
		}
	}
	if next != "<<<<<<< m\n" {
		t.Fatalf("%q: no end of a conflict", text)
	}
	return l
}

// madeIn is a base with changes of both sides made in it, each in its place; no two of them meet.
func madeIn(g given) string {
	text := ""
	s, u := joined(g.mine.s), joined(g.yours.s)
	for place := 0; place <= len(g.base); place++ {
		gone := false
		for _, x := range []side{{s, g.mine.lines}, {u, g.yours.lines}} {
			for _, c := range x.s {
				if c.A == place {
					text += strings.Join(x.lines[c.B:c.B+c.M], "")
				}
				gone = gone || c.A <= place && place < c.A+c.N
			}
		}
		if !gone && place < len(g.base) {
			text += g.base[place]
		}
	}
	return text
}

// ME3, P14: where no change of one side meets one of the other there is no conflict, and the text has the changes of both.
func TestChangesApart(t *testing.T) {
	n := 0
	eachSmall(t, func(g given) {
		for _, c := range g.mine.s {
			if slices.ContainsFunc(g.yours.s, func(d api.Change) bool { return meet(c, d) }) {
				return
			}
		}
		n++
		if hasClash(mustChunks(t, g)) {
			t.Fatalf("%v: a clash", g)
		}
		for format := formatTwo; format <= formatYours; format++ {
			if text, clashes := mustMerge(t, g, format); text != madeIn(g) || clashes != 0 {
				t.Fatalf("%v: %q, %d, not %q", g, text, clashes, madeIn(g))
			}
		}
	})
	if n < 1000 {
		t.Error("only", n)
	}
}

// ME3: without a clash each line of the base that stays by both scripts is in the text, in order.
func TestLinesThatStayAreTold(t *testing.T) {
	eachSmall(t, func(g given) {
		if hasClash(mustChunks(t, g)) {
			return
		}
		text, _ := mustMerge(t, g, formatTwo)
		left := lines.Split(text)
		stay := staysByBoth(t, g)
		for _, line := range stay {
			i := slices.Index(left, line)
			if i < 0 {
				t.Fatalf("%v: %q, without %q in order", g, text, stay)
			}
			left = left[i+1:]
		}
	})
}

// staysByBoth are the lines of the base that stay by both scripts.
func staysByBoth(t *testing.T, g given) []string {
	t.Helper()
	count := make([]int, len(g.base))
	for _, x := range []side{g.mine, g.yours} {
		pairs, err := edits.Pairs(x.s, len(g.base), len(x.lines))
		if err != nil {
			t.Fatal(err)
		}
		for _, p := range pairs {
			count[p[0]]++
		}
	}
	var l []string
	for i, line := range g.base {
		if count[i] == 2 {
			l = append(l, line)
		}
	}
	return l
}

// isPiece tells whether lines are a piece of a text, the last line of which got its end.
func isPiece(piece, text []string) bool {
	all := lines.Split(ended(strings.Join(text, "")))
	for from := 0; from+len(piece) <= len(all); from++ {
		if slices.Equal(piece, all[from:from+len(piece)]) {
			return true
		}
	}
	return false
}

// ME4: every conflict holds both sides whole: with the format 1 pieces of mine and of yours, with the format 2 one of the base too.
func TestConflictsHoldBothSides(t *testing.T) {
	seen := 0
	eachSmall(t, func(g given) {
		chunks := mustChunks(t, g)
		var clash []Chunk
		for _, c := range chunks {
			if c.Kind == Clash {
				clash = append(clash, c)
			}
		}
		for format := formatTwo; format <= formatThree; format++ {
			text, n := mustMerge(t, g, format)
			l := toldOf(t, text, format)
			if n != len(l)-1 || n != len(clash) {
				t.Fatalf("%v: %q: %d conflicts, %d clashes", g, text, n, len(clash))
			}
			for i, c := range l[:n] {
				seen++
				if !isPiece(c.mine, g.mine.lines) || !isPiece(c.yours, g.yours.lines) || !isPiece(c.base, g.base) {
					t.Fatalf("%v: %q: %v", g, text, c)
				}
				if strings.Join(c.mine, "") != ended(g.textOf(clash[i], 1)) || strings.Join(c.yours, "") != ended(g.textOf(clash[i], 3)) ||
					format == formatThree && strings.Join(c.base, "") != ended(g.textOf(clash[i], 2)) {
					t.Fatalf("%v: %q: %v is not %v", g, text, c, clash[i])
				}
			}
		}
	})
	if seen < 1000 {
		t.Error("only", seen)
	}
}

// ME5: settled by mine the text is what is settled by yours with both exchanged; without a clash all formats make one text.
func TestSettled(t *testing.T) {
	eachSmall(t, func(g given) {
		byMine, _ := mustMerge(t, g, formatMine)
		if byYours, _ := mustMerge(t, g.exchanged(), formatYours); byMine != byYours {
			t.Fatalf("%v: %q by mine, %q by yours exchanged", g, byMine, byYours)
		}
		isCalm := !hasClash(mustChunks(t, g))
		for format := formatTwo; format <= formatYours; format++ {
			text, n := mustMerge(t, g, format)
			if isCalm && text != byMine || format > formatThree && n != 0 {
				t.Fatalf("%v: %q, %d with format %d", g, text, n, format)
			}
			if format > formatThree {
				hasNoMark(t, g, text)
			}
		}
	})
}

// hasNoMark fails where a text has a line that is in none of the three, but for its end.
func hasNoMark(t *testing.T, g given, text string) {
	t.Helper()
	for _, line := range lines.Split(text) {
		is := func(other string) bool { return lines.Bare(other) == lines.Bare(line) }
		if !slices.ContainsFunc(slices.Concat(g.base, g.mine.lines, g.yours.lines), is) {
			t.Fatalf("%v: %q has %q", g, text, line)
		}
	}
}

// ME5: with the formats 3 to 5 lines that look like marks are told where they are in one of the three, and nowhere else.
func TestMarksOfTheTexts(t *testing.T) {
	g := given{[]string{"1\n"}, line1("<<<<<<< m\n"), line1(">>>>>>> y\n")}
	for format, want := range map[int]string{3: "<<<<<<< m\n>>>>>>> y\n", 4: "<<<<<<< m\n", 5: ">>>>>>> y\n"} {
		merges(t, "marks", g, format, want, 0)
	}
	merges(t, "marks", g, 1, "<<<<<<< m\n<<<<<<< m\n=======\n>>>>>>> y\n>>>>>>> y\n", 1)
}

// ME8: Onto's script leads from mine to the text, by lines that are the same, and is normal; without changes in t it has none.
func TestOntoLeads(t *testing.T) {
	eachSmall(t, func(g given) {
		for format := formatTwo; format <= formatYours; format++ {
			text, _ := mustMerge(t, g, format)
			s, l, err := g.onto(myLabels(), format)
			if err != nil || !slices.Equal(l, lines.Split(text)) {
				t.Fatalf("%v: %q, %v, not %q", g, l, err, text)
			}
			isNormalScript(t, g, s, l)
			if len(g.yours.s) == 0 && len(s) > 0 || format == formatMine && hasOnlyMine(t, g) && len(s) > 0 {
				t.Fatalf("%v: %v with format %d", g, s, format)
			}
		}
	})
}

// hasOnlyMine tells whether no chunk is of kind Yours.
func hasOnlyMine(t *testing.T, g given) bool {
	t.Helper()
	return !slices.ContainsFunc(mustChunks(t, g), func(c Chunk) bool { return c.Kind == Yours })
}

// isNormalScript fails where changes are no normal script from mine to lines, or a line that stays is not the same.
func isNormalScript(t *testing.T, g given, s []api.Change, l []string) {
	t.Helper()
	normal, err := edits.Normal(s, len(g.mine.lines), len(l))
	if err != nil || !slices.Equal(s, normal) {
		t.Fatalf("%v: %v, normal %v, %v", g, s, normal, err)
	}
	pairs, err := edits.Pairs(s, len(g.mine.lines), len(l))
	for _, p := range pairs {
		if g.mine.lines[p[0]] != l[p[1]] {
			t.Fatalf("%v: %v to %q: %v stays", g, s, l, p)
		}
	}
	if err != nil {
		t.Fatal(err)
	}
}

// ME8: Diff3 tells nothing just where nobody changed anything, and with both exchanged as many pieces.
func TestDiff3Pieces(t *testing.T) {
	eachSmall(t, func(g given) {
		pieces := toldPieces(t, g)
		if (pieces == 0) != (len(g.mine.s)+len(g.yours.s) == 0) {
			t.Fatalf("%v: %d pieces", g, pieces)
		}
		if other := toldPieces(t, g.exchanged()); other != pieces {
			t.Fatalf("%v: %d pieces, exchanged %d", g, pieces, other)
		}
	})
}

// toldPieces is how many pieces Diff3 tells; none, just if it tells nothing.
func toldPieces(t *testing.T, g given) int {
	t.Helper()
	text, err := g.diff3()
	if err != nil {
		t.Fatalf("Diff3 of %v: %v", g, err)
	}
	n := strings.Count("\n"+text, "\n====")
	if (n == 0) != (text == "") {
		t.Fatalf("Diff3 of %v: %q", g, text)
	}
	return n
}
