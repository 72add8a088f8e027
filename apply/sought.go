package apply

import (
	"selvage/api"
	"selvage/hunks"
)

// sought is a hunk as it is sought in a text: the lines of its two sides, how many of them are context ahead and behind, and its stated place.
type sought struct {
	old, fresh    []string
	ahead, behind int
	place         int
}

// soughtOf is a hunk that may be, as it is sought.
func soughtOf(h api.Hunk) sought {
	s := sought{place: h.A}
	if h.N > 0 {
		s.place--
	}
	s.old, s.fresh = hunks.Sides(h)
	s.ahead, s.behind = around(h.Rows)
	return s
}

// around is how many rows RowBoth stand ahead of the first other row, and behind the last one; there is one.
func around(rows []api.Row) (int, int) {
	ahead, behind := 0, 0
	for rows[ahead].Kind == api.RowBoth {
		ahead++
	}
	for rows[len(rows)-1-behind].Kind == api.RowBoth {
		behind++
	}
	return ahead, behind
}

// part is what a fuzz leaves of a hunk's lines, and how many it leaves out at the beginning.
type part struct {
	old, fresh []string
	skipped    int
}

// with is what a fuzz leaves. The rows that it leaves out are of both sides: so many lines of each go.
func (s sought) with(fuzz int) part {
	begin, end := min(fuzz, s.ahead), min(fuzz, s.behind)
	return part{s.old[begin : len(s.old)-end], s.fresh[begin : len(s.fresh)-end], begin}
}

// find is the place of the hunk in a text, and with which fuzz, its lines standing at from, which is not below 0, or behind it.
func (s sought) find(t *text, from, offset, fuzz int) (int, int, bool) {
	// A fuzz above both contexts leaves out no more than one that is as great as the greater of them.
	for f := range min(fuzz, api.MaxFuzz, max(s.ahead, s.behind)) + 1 {
		p := s.with(f)
		// Offsets beyond the text all lead to its end: with the text's length in their place the sum can't pass the greatest int.
		target := s.place + p.skipped + min(offset, len(t.lines))
		if at, found := t.nearest(p.old, from, target); found {
			return at - p.skipped, f, true
		}
	}
	return 0, 0, false
}
