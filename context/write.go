package context

import (
	"selvage/api"
	"selvage/difftext"
	"slices"
	"strings"
)

// writeHunk writes a hunk that may be.
func writeHunk(b *strings.Builder, h api.Hunk) {
	b.WriteString(stars)
	difftext.WriteHead(b, h.Head)
	marked := markRows(h.Rows)
	b.WriteString(oldMark + difftext.RangeText(h.A, h.N) + oldClose + "\n")
	writePart(b, h.Rows, marked, api.RowOld)
	b.WriteString(freshMark + difftext.RangeText(h.B, h.M) + freshClose + "\n")
	writePart(b, h.Rows, marked, api.RowNew)
}

// markRows are the marks of rows, one for each.
func markRows(rows []api.Row) []string {
	marked := make([]string, 0, len(rows))
	for len(marked) < len(rows) {
		rest := rows[len(marked):]
		run := leadingRun(rest)
		if len(run) == 0 {
			marked = append(marked, markBoth)
			continue
		}
		gone, come := markGone, markCome
		if hasKind(run, api.RowOld) && hasKind(run, api.RowNew) {
			gone, come = markChange, markChange
		}
		for _, r := range run {
			if r.Kind == api.RowOld {
				marked = append(marked, gone)
			} else {
				marked = append(marked, come)
			}
		}
	}
	return marked
}

// leadingRun are the rows ahead of the first one that is of both sides.
func leadingRun(rows []api.Row) []api.Row {
	for i, r := range rows {
		if r.Kind == api.RowBoth {
			return rows[:i]
		}
	}
	return rows
}

// hasKind tells whether one of the rows is of a kind.
func hasKind(rows []api.Row, kind int) bool {
	return slices.ContainsFunc(rows, func(r api.Row) bool { return r.Kind == kind })
}

// writePart writes the rows of the side that has a kind of rows for itself; nothing, if none is of that kind.
func writePart(b *strings.Builder, rows []api.Row, marked []string, own int) {
	if !hasKind(rows, own) {
		return
	}
	for i, r := range rows {
		if r.Kind == api.RowBoth || r.Kind == own {
			difftext.WriteRow(b, marked[i], r.Text)
		}
	}
}
