package apply

import (
	"math"
	"math/big"
	"selvage/api"
	"selvage/hunks"
	"slices"
	"testing"
)

// leftByWords are the rows that a fuzz leaves of a hunk, and how many it leaves out at the beginning.
func leftByWords(h api.Hunk, fuzz int) ([]api.Row, int) {
	rows := h.Rows
	begin := 0
	for begin < fuzz && rows[0].Kind == api.RowBoth {
		rows = rows[1:]
		begin++
	}
	for end := 0; end < fuzz && rows[len(rows)-1].Kind == api.RowBoth; end++ {
		rows = rows[:len(rows)-1]
	}
	return rows, begin
}

// sideByWords are the Texts of the rows RowBoth and of another kind.
func sideByWords(rows []api.Row, kind int) []string {
	var side []string
	for _, r := range rows {
		if r.Kind == api.RowBoth || r.Kind == kind {
			side = append(side, r.Text)
		}
	}
	return side
}

// statedByWords is a hunk's stated place.
func statedByWords(h api.Hunk) int {
	if h.N == 0 {
		return h.A
	}
	return h.A - 1
}

// aimByWords is a hunk's stated place and an offset together: at most the greatest int, at least the least one.
func aimByWords(h api.Hunk, offset int) *big.Int {
	aim := new(big.Int).Add(big.NewInt(int64(statedByWords(h))), big.NewInt(int64(offset)))
	if aim.Cmp(big.NewInt(math.MaxInt)) > 0 {
		return big.NewInt(math.MaxInt)
	}
	if aim.Cmp(big.NewInt(math.MinInt)) < 0 {
		return big.NewInt(math.MinInt)
	}
	return aim
}

// findByWords is what AP1 says: all places are tried, and their distances told as they are.
func findByWords(old []string, h api.Hunk, from, offset, fuzz int) (int, int, bool) {
	if hunks.Valid(h) != nil {
		return 0, 0, false
	}
	aim := aimByWords(h, offset)
	for f := 0; f <= fuzz && f <= api.MaxFuzz; f++ {
		rows, k := leftByWords(h, f)
		left := sideByWords(rows, api.RowOld)
		place, found, least := 0, false, new(big.Int)
		for q := -k; q+k+len(left) <= len(old); q++ {
			if q+k < from || !slices.Equal(old[q+k:q+k+len(left)], left) {
				continue
			}
			distance := new(big.Int).Sub(big.NewInt(int64(q)), aim)
			if !found || distance.CmpAbs(least) < 0 {
				place, found, least = q, true, distance
			}
		}
		if found {
			return place, f, true
		}
	}
	return 0, 0, false
}

// linesByWords tells whether strings are the lines of a text.
func linesByWords(l []string) bool {
	for i, line := range l {
		for k, c := range []byte(line) {
			if c == '\n' && k < len(line)-1 {
				return false
			}
		}
		if line == "" || i < len(l)-1 && line[len(line)-1] != '\n' {
			return false
		}
	}
	return true
}

// applyByWords is what AP2 says: the new text is made anew for each hunk, out of the lines of the old one, each of which has what stands in its place.
func applyByWords(old []string, l []api.Hunk, fuzz int) answer {
	if fuzz < 0 || fuzz > 3 {
		return answer{err: api.ErrArg}
	}
	if !linesByWords(old) {
		return answer{err: api.ErrLine}
	}
	for _, h := range l {
		if hunks.Valid(h) != nil {
			return answer{err: api.ErrHunk}
		}
	}
	var done answer
	ahead := make([][]string, len(old)+1) // what has come ahead of each line, and at the end
	gone := make([]bool, len(old))
	from, offset, more := 0, 0, 0
	for i, h := range l {
		q, f, found := findByWords(old, h, from, offset, fuzz)
		if !found {
			done.rejects = append(done.rejects, i)
			continue
		}
		rows, k := leftByWords(h, f)
		took := len(sideByWords(rows, api.RowOld))
		offset = q - statedByWords(h)
		done.hits = append(done.hits, Hit{Hunk: i, Line: q + 1 + more, Offset: offset, Fuzz: f})
		from = q + k + took
		ahead[q+k] = append(ahead[q+k], sideByWords(rows, api.RowNew)...)
		for at := q + k; at < from; at++ {
			gone[at] = true
		}
		more += h.M - h.N
	}
	for at, line := range old {
		done.lines = append(done.lines, ahead[at]...)
		if !gone[at] {
			done.lines = append(done.lines, line)
		}
	}
	done.lines = append(done.lines, ahead[len(old)]...)
	if !linesByWords(done.lines) {
		return answer{err: api.ErrLine}
	}
	return done
}

// findsByWords fails where Find is not as AP1 says it.
func findsByWords(t *testing.T, old []string, c call) bool {
	q, f, found := Find(old, c.h, c.from, c.offset, c.fuzz)
	wantQ, wantF, want := findByWords(old, c.h, c.from, c.offset, c.fuzz)
	if q != wantQ || f != wantF || found != want {
		t.Fatalf("%q, %v: %d, %d, %v, not %d, %d, %v", old, c, q, f, found, wantQ, wantF, want)
	}
	return found
}

// doesByWords fails where Apply is not as AP2 says it.
func doesByWords(t *testing.T, old []string, l []api.Hunk, fuzz int) answer {
	got, want := apply(old, l, fuzz), applyByWords(old, l, fuzz)
	if !got.same(want) {
		t.Fatalf("%s: %v, not %v", called(old, l, fuzz), got, want)
	}
	return got
}

// smallTexts are all lists of at most so many of some lines, with a last line with an end or without.
func smallTexts(letters string, most int, ends bool) [][]string {
	texts := []string{""}
	for from := 0; most > 0; most-- {
		longest := texts[from:]
		from = len(texts)
		for _, text := range longest {
			for _, letter := range letters {
				texts = append(texts, text+string(letter))
			}
		}
	}
	var all [][]string
	for _, text := range texts {
		all = append(all, textOf(text))
		if ends && text != "" {
			all = append(all, textOf(text+"|"))
		}
	}
	return all
}

// smallRows are all rows of so many, with a changed one, of all kinds and some letters.
func smallRows(most int, letters ...string) [][]string {
	all := [][]string{nil}
	for from := 0; most > 0; most-- {
		longest := all[from:]
		from = len(all)
		for _, rows := range longest {
			for _, mark := range []string{" ", "-", "+"} {
				for _, letter := range letters {
					all = append(all, append(slices.Clone(rows), mark+letter))
				}
			}
		}
	}
	return slices.DeleteFunc(all, func(rows []string) bool {
		return !slices.ContainsFunc(rows, func(row string) bool { return row[0] != ' ' })
	})
}

// AP1: all small hunks, in all small texts, from everywhere, with every offset and fuzz.
func TestFindByWordsOfAllSmall(t *testing.T) {
	texts := smallTexts("ab", 4, false)
	found := 0
	for i, rows := range smallRows(3, "a", "b") {
		for _, old := range texts {
			for k, from := range []int{math.MinInt, 0, 1, 2, 4, 5} {
				at := (i + k) % 6
				for _, offset := range []int{math.MinInt, -2, -1, 0, 1, 3, math.MaxInt} {
					if findsByWords(t, old, call{hunk(at, 1, rows...), from, offset, (at + k) % 4}) {
						found++
					}
				}
			}
		}
	}
	if found < 50000 {
		t.Error(found, "are found")
	}
}

// AP2: all lists of two small hunks, in all small texts, with lines without an end too.
func TestApplyByWordsOfAllSmall(t *testing.T) {
	texts := smallTexts("ab", 3, true)
	var l []api.Hunk
	for at := range 4 {
		for _, rows := range append(smallRows(2, "a", "b"), smallRows(1, "a|", "b|")...) {
			l = append(l, hunk(at, at, rows...))
		}
	}
	for i, first := range l {
		for k, second := range l {
			two := []api.Hunk{first, second}
			for at := (i + k) % 3; at < len(texts); at += 3 {
				doesByWords(t, texts[at], two, k%2)
			}
		}
	}
	for _, old := range texts {
		for _, h := range l {
			for fuzz := -1; fuzz < 5; fuzz++ {
				doesByWords(t, old, one(h), fuzz)
			}
		}
	}
}

// someText is a text of few letters.
func (s *steps) someText(most, kinds int) []string {
	var l []string
	for range s.below(most + 1) {
		l = append(l, string(rune('a'+s.below(kinds)))+"\n")
	}
	if len(l) > 0 && s.below(4) == 0 {
		l[len(l)-1] = l[len(l)-1][:1]
	}
	return l
}

// someHunk is a hunk of lines that stand in a text, here and there with another one, whose place is off by a few lines.
func (s *steps) someHunk(old []string, kinds int) api.Hunk {
	at := s.below(len(old) + 1)
	stated := max(at+s.below(9)-4, 0)
	h := api.Hunk{}
	before, changed, after := s.below(6), 1+s.below(4), s.below(6)
	for i := range before + changed + after {
		kind := api.RowBoth
		if i >= before && i < before+changed {
			kind += s.below(3)
		}
		text := string(rune('a'+s.below(kinds))) + "\n"
		if kind != api.RowNew && at < len(old) {
			if s.below(12) > 0 {
				text = old[at]
			}
			at++
		}
		h.Rows = append(h.Rows, api.Row{Kind: kind, Text: text})
	}
	h.N, h.M = len(sideByWords(h.Rows, api.RowOld)), len(sideByWords(h.Rows, api.RowNew))
	h.A, h.B = stated+min(h.N, 1), stated+min(h.M, 1)
	return h
}

// AP1: longer hunks and texts, of few kinds of lines and of more.
func TestFindByWordsOfMany(t *testing.T) {
	next := steps(1)
	far := []int{math.MinInt, math.MinInt + 1, -api.MaxNumber, api.MaxNumber, math.MaxInt - 1, math.MaxInt}
	fuzzes := [5]int{}
	for range 150000 {
		kinds := 1 + next.below(4)
		old := next.someText(40, kinds)
		c := call{next.someHunk(old, kinds), next.below(8) - 3, next.below(21) - 10, next.below(6) - 1}
		if next.below(4) == 0 {
			c.from = next.below(len(old) + 3)
		}
		if next.below(10) == 0 {
			c.offset = far[next.below(len(far))]
		}
		if next.below(20) == 0 {
			c.h.A = api.MaxNumber - next.below(30)
		}
		findsByWords(t, old, c)
		if _, f, found := Find(old, c.h, c.from, c.offset, c.fuzz); found {
			fuzzes[f]++
		}
	}
	for f, n := range fuzzes[:4] {
		if n < 1000 {
			t.Error(n, "are found with the fuzz", f)
		}
	}
}

// AP2: lists of several hunks.
func TestApplyByWordsOfMany(t *testing.T) {
	next := steps(2)
	hits, rejects, broken := 0, 0, 0
	for range 60000 {
		kinds := 1 + next.below(6)
		old := next.someText(60, kinds)
		var l []api.Hunk
		for range next.below(7) {
			l = append(l, next.someHunk(old, kinds))
		}
		if next.below(3) > 0 {
			slices.SortFunc(l, func(g, h api.Hunk) int { return g.A - h.A })
		}
		got := doesByWords(t, old, l, next.below(4))
		hits += len(got.hits)
		rejects += len(got.rejects)
		if got.err != nil {
			broken++
		}
	}
	if min(hits, rejects, broken) < 1000 {
		t.Error(hits, "hits,", rejects, "rejects,", broken, "errors")
	}
}
