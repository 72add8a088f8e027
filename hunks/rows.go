package hunks

import "selvage/api"

// spot is a place in both texts: how many lines stand ahead of it in the old one, and in the new one.
type spot struct{ old, fresh int }

// begin is where the sides of a hunk begin.
func begin(h api.Hunk) spot {
	return spot{ahead(h.A, h.N), ahead(h.B, h.M)}
}

// ahead is how many lines stand ahead of a side that is told as n lines from the line at on.
func ahead(at, n int) int {
	if n > 0 {
		return at - 1
	}
	return at
}

// told is the line from which on a side of n lines is told that has so many lines ahead of it.
func told(place, n int) int {
	if n > 0 {
		return place + 1
	}
	return place
}

// behind is the place behind rows that begin at a place.
func (s spot) behind(rows []api.Row) spot {
	for _, r := range rows {
		if r.Kind != api.RowNew {
			s.old++
		}
		if r.Kind != api.RowOld {
			s.fresh++
		}
	}
	return s
}

// hunk is the hunk of rows that begin at a place. It keeps the rows.
func (s spot) hunk(rows []api.Row) api.Hunk {
	end := s.behind(rows)
	n, m := end.old-s.old, end.fresh-s.fresh
	return api.Hunk{A: told(s.old, n), N: n, B: told(s.fresh, m), M: m, Rows: rows}
}

// span is rows of a hunk: from the row from on, ahead of the row to.
type span struct{ from, to int }

// isChanged tells whether a row is of one side alone.
func isChanged(r api.Row) bool {
	return r.Kind == api.RowOld || r.Kind == api.RowNew
}

// eachRun hands on, in order, the runs of rows that are of one side alone, each as long as it is.
func eachRun(rows []api.Row, take func(run span)) {
	from := 0
	end := func(at int) {
		if at > from {
			take(span{from, at})
		}
		from = at + 1
	}
	for i, r := range rows {
		if !isChanged(r) {
			end(i)
		}
	}
	end(len(rows))
}

// appendRows are rows with lines behind them, as rows of one kind.
func appendRows(rows []api.Row, kind int, texts []string) []api.Row {
	for _, text := range texts {
		rows = append(rows, api.Row{Kind: kind, Text: text})
	}
	return rows
}
