package hunks

import (
	"selvage/api"
	"selvage/lines"
	"slices"
)

// Narrow is a hunk with less context, in pieces where it falls apart.
func Narrow(h api.Hunk, context int) ([]api.Hunk, error) {
	if !isContext(context) {
		return nil, api.ErrArg
	}
	if err := Valid(h); err != nil {
		return nil, err
	}
	var spans []span
	for _, s := range groups(h.Rows, context) {
		spans = append(spans, span{max(s.from-context, 0), min(s.to+context, len(h.Rows))})
	}
	return pieces(h, spans), nil
}

// groups are the spans from a first run to a last one, where no more than 2 * context other rows stand between two runs of one span.
func groups(rows []api.Row, context int) []span {
	var list []span
	eachRun(rows, func(run span) {
		last := len(list) - 1
		if last >= 0 && run.from-list[last].to <= 2*context {
			list[last].to = run.to
		} else {
			list = append(list, run)
		}
	})
	return list
}

// pieces are spans of a hunk's rows, one at least and in order, as hunks of their own; the first one has its Head.
func pieces(h api.Hunk, spans []span) []api.Hunk {
	list := make([]api.Hunk, len(spans))
	at, done := begin(h), 0
	for i, s := range spans {
		at, done = at.behind(h.Rows[done:s.from]), s.from
		list[i] = at.hunk(slices.Clone(h.Rows[s.from:s.to]))
	}
	list[0].Head = h.Head
	return list
}

// Wide is a hunk with more context, of the old text's lines.
func Wide(h api.Hunk, a []string, context int) (api.Hunk, error) {
	if !isContext(context) {
		return api.Hunk{}, api.ErrArg
	}
	if err := Valid(h); err != nil {
		return api.Hunk{}, err
	}
	if !lines.Valid(a) {
		return api.Hunk{}, api.ErrForm
	}
	if !standsIn(h, a) {
		return api.Hunk{}, api.ErrApply
	}
	// Where the new text has fewer lines ahead than would come, the wider hunk's new side would begin ahead of the line 1, and it may not be.
	wide := widened(h, a, context)
	if err := Valid(wide); err != nil {
		return api.Hunk{}, err
	}
	return wide, nil
}

// standsIn tells whether a hunk's old lines stand in a text at its place, and the text ends there if the new ones lack an end: a line that goes on behind them would stand behind a line that is not whole.
func standsIn(h api.Hunk, a []string) bool {
	at := begin(h).old
	if at > len(a)-h.N {
		return false
	}
	old, fresh := Sides(h)
	if lacksEnd(fresh) && at+h.N < len(a) {
		return false
	}
	return slices.Equal(a[at:at+h.N], old)
}

// widened is a hunk with the rows of a text that are wanting to its context; it stands in the text.
func widened(h api.Hunk, a []string, context int) api.Hunk {
	at := begin(h)
	end := at.old + h.N
	before, after := around(h.Rows)
	before = min(max(context-before, 0), at.old)
	after = min(max(context-after, 0), len(a)-end)
	rows := make([]api.Row, 0, before+len(h.Rows)+after)
	rows = appendRows(rows, api.RowBoth, a[at.old-before:at.old])
	rows = append(rows, h.Rows...)
	rows = appendRows(rows, api.RowBoth, a[end:end+after])
	wide := spot{at.old - before, at.fresh - before}.hunk(rows)
	wide.Head = h.Head
	return wide
}

// around is how many rows stand ahead of the first run of rows that are of one side alone, and how many behind the last one.
func around(rows []api.Row) (int, int) {
	first, last := len(rows), 0
	eachRun(rows, func(run span) {
		first, last = min(first, run.from), run.to
	})
	return first, len(rows) - last
}

// Split is a hunk as two, the second one from a row on.
func Split(h api.Hunk, at int) ([]api.Hunk, error) {
	if at < 1 || at > len(h.Rows)-1 {
		return nil, api.ErrArg
	}
	if err := Valid(h); err != nil {
		return nil, err
	}
	two := pieces(h, []span{{0, at}, {at, len(h.Rows)}})
	for _, piece := range two {
		if err := Valid(piece); err != nil {
			return nil, err
		}
	}
	return two, nil
}
