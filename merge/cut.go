package merge

import (
	"math"
	"selvage/api"
	"slices"
)

// texts are the lines of three texts, or of a piece of them.
type texts struct {
	base, mine, yours []string
}

// within are the lines that three texts have in a chunk.
func (t texts) within(c Chunk) texts {
	return texts{
		base:  t.base[c.Base : c.Base+c.BaseN],
		mine:  t.mine[c.Mine : c.Mine+c.MineN],
		yours: t.yours[c.Yours : c.Yours+c.YourN],
	}
}

// fits tells whether each line that stays by a script is the same text in both.
func fits(s []api.Change, base, side []string) bool {
	a, b := 0, 0
	for _, c := range s {
		if !slices.Equal(base[a:c.A], side[b:c.B]) {
			return false
		}
		a, b = c.A+c.N, c.B+c.M
	}
	return slices.Equal(base[a:], side[b:])
}

// track goes through the normal script of one side, change by change.
type track struct {
	left []api.Change
	more int // how many lines more the side has than the base, up to the changes that are left
}

// begin is the place of the base at which the next change begins; one that no text has, if none is left.
func (t *track) begin() int {
	if len(t.left) == 0 {
		return math.MaxInt
	}
	return t.left[0].A
}

// pass passes the next change, and answers the place of the base at which it ends.
func (t *track) pass() int {
	c := t.left[0]
	t.left = t.left[1:]
	t.more += c.M - c.N
	return c.A + c.N
}

// cutter cuts three texts into chunks, from their beginning on.
type cutter struct {
	texts
	byMine, byYours track
	last            Chunk // what was cut last: the next one begins behind it
	chunks          []Chunk
}

// cut are the chunks of three texts, by normal scripts from the base to either that fit.
func cut(s, t []api.Change, all texts) []Chunk {
	c := cutter{texts: all, byMine: track{left: s}, byYours: track{left: t}}
	for len(c.byMine.left)+len(c.byYours.left) > 0 {
		begin := c.next()
		c.calm(begin)
		c.changed(begin)
	}
	c.calm(len(all.base))
	return c.chunks
}

// next is the place of the base at which the next change of either side begins.
func (c *cutter) next() int {
	return min(c.byMine.begin(), c.byYours.begin())
}

// calm cuts the lines that nobody changed, up to a place of the base.
func (c *cutter) calm(end int) {
	if chunk := c.upTo(end); chunk.BaseN > 0 {
		c.take(chunk, Calm)
	}
}

// changed cuts the changes that meet, from the one on that begins at a place of the base.
func (c *cutter) changed(begin int) {
	leftMine, leftYours := len(c.byMine.left), len(c.byYours.left)
	end := begin
	for c.next() <= end {
		if c.byMine.begin() <= end {
			end = max(end, c.byMine.pass())
		} else {
			end = max(end, c.byYours.pass())
		}
	}
	chunk := c.upTo(end)
	part := c.within(chunk)
	switch {
	case len(c.byYours.left) == leftYours:
		c.take(chunk, Mine)
	case len(c.byMine.left) == leftMine:
		c.take(chunk, Yours)
	case slices.Equal(part.mine, part.yours):
		c.take(chunk, Both)
	default:
		c.take(chunk, Clash)
	}
}

// upTo is what stands behind the last chunk, up to a place of the base; all changes ahead of that are passed.
func (c *cutter) upTo(end int) Chunk {
	next := Chunk{Base: c.last.Base + c.last.BaseN, Mine: c.last.Mine + c.last.MineN, Yours: c.last.Yours + c.last.YourN}
	next.BaseN = end - next.Base
	next.MineN = end + c.byMine.more - next.Mine
	next.YourN = end + c.byYours.more - next.Yours
	return next
}

// take takes a chunk as one of a kind.
func (c *cutter) take(chunk Chunk, kind int) {
	chunk.Kind = kind
	c.chunks = append(c.chunks, chunk)
	c.last = chunk
}
