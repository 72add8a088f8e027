package merge

import (
	"fmt"
	"selvage/api"
	"selvage/edits"
	"selvage/lines"
	"slices"
	"strings"
)

// joined is a script with the changes that touch put together.
func joined(s []api.Change) []api.Change {
	var l []api.Change
	for _, c := range s {
		if len(l) > 0 {
			last := &l[len(l)-1]
			if last.A+last.N == c.A && last.B+last.M == c.B {
				last.N, last.M = last.N+c.N, last.M+c.M
				continue
			}
		}
		l = append(l, c)
	}
	return l
}

// meet tells whether two changes have a place in common, place by place.
func meet(c, d api.Change) bool {
	for place := c.A; place <= c.A+c.N; place++ {
		if d.A <= place && place <= d.A+d.N {
			return true
		}
	}
	return false
}

// group is changes that meet, and those that meet these, and so on.
type group struct {
	mine, yours []api.Change
}

// groupsByWords puts changes together, two groups at a time, as long as changes of theirs meet.
func groupsByWords(s, t []api.Change) []group {
	var all []group
	for _, c := range s {
		all = append(all, group{mine: []api.Change{c}})
	}
	for _, c := range t {
		all = append(all, group{yours: []api.Change{c}})
	}
	for again := true; again; {
		again = false
		for i := range all {
			for k := len(all) - 1; k > i; k-- {
				if all[i].meets(all[k]) {
					all[i].mine = append(all[i].mine, all[k].mine...)
					all[i].yours = append(all[i].yours, all[k].yours...)
					all = slices.Delete(all, k, k+1)
					again = true
				}
			}
			if again {
				break
			}
		}
	}
	slices.SortFunc(all, func(x, y group) int { return x.begin() - y.begin() })
	return all
}

// meets tells whether a change of one group meets one of the other.
func (g group) meets(h group) bool {
	for _, c := range g.all() {
		if slices.ContainsFunc(h.all(), func(d api.Change) bool { return meet(c, d) }) {
			return true
		}
	}
	return false
}

// all are all changes of a group.
func (g group) all() []api.Change {
	return slices.Concat(g.mine, g.yours)
}

// begin is where the first of a group's changes begins.
func (g group) begin() int {
	return slices.MinFunc(g.all(), func(c, d api.Change) int { return c.A - d.A }).A
}

// end is where the last one of a group's changes ends.
func (g group) end() int {
	last := slices.MaxFunc(g.all(), func(c, d api.Change) int { return c.A + c.N - d.A - d.N })
	return last.A + last.N
}

// partByWords is what of a side stands for a piece of the base: how many lines of it stay there by a script, and how many come by some of its changes.
func partByWords(s, some []api.Change, n, m, begin, end int) int {
	count := 0
	pairs, _ := edits.Pairs(s, n, m)
	for _, p := range pairs {
		if begin <= p[0] && p[0] < end {
			count++
		}
	}
	for _, c := range some {
		count += c.M
	}
	return count
}

// chunksByWords are the chunks by the words of ME1.
func chunksByWords(g given) []Chunk {
	s, t := joined(g.mine.s), joined(g.yours.s)
	groups := groupsByWords(s, t)
	var chunks []Chunk
	at := Chunk{}
	add := func(kind, end int, some group) {
		c := at
		c.Kind = kind
		c.BaseN = end - c.Base
		c.MineN = partByWords(s, some.mine, len(g.base), len(g.mine.lines), c.Base, end)
		c.YourN = partByWords(t, some.yours, len(g.base), len(g.yours.lines), c.Base, end)
		chunks = append(chunks, c)
		at = Chunk{Base: end, Mine: c.Mine + c.MineN, Yours: c.Yours + c.YourN}
	}
	for _, some := range groups {
		if some.begin() > at.Base {
			add(Calm, some.begin(), group{})
		}
		add(Clash, some.end(), some)
		last := &chunks[len(chunks)-1]
		switch {
		case len(some.yours) == 0:
			last.Kind = Mine
		case len(some.mine) == 0:
			last.Kind = Yours
		case g.textOf(*last, 1) == g.textOf(*last, 3):
			last.Kind = Both
		}
	}
	if at.Base < len(g.base) {
		add(Calm, len(g.base), group{})
	}
	return chunks
}

// textOf is what one of the three texts, by its number, has of a chunk.
func (g given) textOf(c Chunk, number int) string {
	switch number {
	case 1:
		return strings.Join(g.mine.lines[c.Mine:c.Mine+c.MineN], "")
	case 2:
		return strings.Join(g.base[c.Base:c.Base+c.BaseN], "")
	}
	return strings.Join(g.yours.lines[c.Yours:c.Yours+c.YourN], "")
}

// ended is a text with a byte 10 behind it, if its last line is not whole.
func ended(text string) string {
	if text != "" && !strings.HasSuffix(text, "\n") {
		text += "\n"
	}
	return text
}

// piecesByWords is the text of each chunk, by the words of ME2.
func piecesByWords(g given, chunks []Chunk, labels []string, format int) []string {
	var pieces []string
	for i, c := range chunks {
		mine, base, yours := g.textOf(c, 1), g.textOf(c, 2), g.textOf(c, 3)
		piece := mine
		switch {
		case c.Kind == Yours:
			piece = yours
		case c.Kind != Clash:
		case format == 1:
			piece = "<<<<<<< " + labels[0] + "\n" + ended(mine) + "=======\n" + ended(yours) + ">>>>>>> " + labels[2] + "\n"
		case format == 2:
			piece = "<<<<<<< " + labels[0] + "\n" + ended(mine) + "||||||| " + labels[1] + "\n" + ended(base) + "=======\n" + ended(yours) + ">>>>>>> " + labels[2] + "\n"
		case format == 3:
			piece = ended(mine) + yours
		case format == 5:
			piece = yours
		}
		if i < len(chunks)-1 && c.Kind != Clash {
			piece = ended(piece)
		}
		pieces = append(pieces, piece)
	}
	return pieces
}

// clashesByWords is how many chunks are Clashes that a format does not settle.
func clashesByWords(chunks []Chunk, format int) int {
	n := 0
	for _, c := range chunks {
		if c.Kind == Clash && format < 3 {
			n++
		}
	}
	return n
}

// ontoByWords is the script from mine to the text, by the words of ME7: chunk by chunk.
func ontoByWords(g given, chunks []Chunk, pieces []string) []api.Change {
	var s []api.Change
	at := 0
	for i, c := range chunks {
		n := len(lines.Split(pieces[i]))
		if pieces[i] != g.textOf(c, 1) {
			s = append(s, api.Change{A: c.Mine, N: c.MineN, B: at, M: n})
		}
		at += n
	}
	return joined(s)
}

// diff3ByWords is what diff3 tells, by the words of ME6.
func diff3ByWords(g given, chunks []Chunk) string {
	text := ""
	for _, c := range chunks {
		ahead := map[int]int{1: c.Mine, 2: c.Base, 3: c.Yours}
		order, without := []int{1, 2, 3}, 0
		switch c.Kind {
		case Calm:
			continue
		case Mine:
			text, without = text+"====1\n", 2
		case Yours:
			text, without = text+"====3\n", 1
		case Both:
			text, without = text+"====2\n", 1
			order = []int{1, 3, 2}
		default:
			text += "====\n"
		}
		for _, number := range order {
			l := strings.SplitAfter(g.textOf(c, number), "\n")
			if l[len(l)-1] == "" {
				l = l[:len(l)-1]
			}
			switch len(l) {
			case 0:
				text += fmt.Sprintf("%d:%da\n", number, ahead[number])
			case 1:
				text += fmt.Sprintf("%d:%dc\n", number, ahead[number]+1)
			default:
				text += fmt.Sprintf("%d:%d,%dc\n", number, ahead[number]+1, ahead[number]+len(l))
			}
			if number == without {
				continue
			}
			for _, line := range l {
				text += "  " + line
				if !strings.HasSuffix(line, "\n") {
					text += "\n\\ No newline at end of file\n"
				}
			}
		}
	}
	return text
}

// errByWords is the error of Chunks.
func errByWords(g given) error {
	for _, l := range [][]string{g.base, g.mine.lines, g.yours.lines} {
		if !lines.Valid(l) {
			return api.ErrForm
		}
	}
	for _, x := range []side{g.mine, g.yours} {
		if err := edits.Valid(x.s, len(g.base), len(x.lines)); err != nil {
			return err
		}
	}
	for _, x := range []side{g.mine, g.yours} {
		pairs, _ := edits.Pairs(x.s, len(g.base), len(x.lines))
		for _, p := range pairs {
			if g.base[p[0]] != x.lines[p[1]] {
				return api.ErrApply
			}
		}
	}
	return nil
}

// mergeErrByWords is the error of Merge, where no text is too long.
func mergeErrByWords(g given, labels []string, format int) error {
	if format < 1 || format > 5 {
		return api.ErrArg
	}
	if len(labels) != 3 {
		return api.ErrWords
	}
	for _, label := range labels {
		if strings.Contains(label, "\n") || len(label) > api.MaxPath {
			return api.ErrName
		}
	}
	return errByWords(g)
}
