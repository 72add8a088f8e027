package context

import (
	"selvage/api"
	"selvage/difftext"
	"slices"
)

// entry is a row of a part.
type entry struct{ mark, text string }

// readPart reads the rows that stand one behind the other, at most so many: of both sides, of a change, or with the part's own mark.
func readPart(r *difftext.Reader, own string, most int) []entry {
	var part []entry
	for len(part) < most {
		line := r.Next()
		mark := line[:min(len(line), len(own))]
		if mark != markBoth && mark != own && mark != markChange {
			break
		}
		part = append(part, entry{mark, r.Row(line, len(mark))})
	}
	return part
}

// together are the rows of both parts of a hunk; false, if the parts do not belong together.
func together(old, fresh []entry) ([]api.Row, bool) {
	if len(old) == 0 && len(fresh) == 0 {
		return nil, false
	}
	if len(old) == 0 {
		old = blankOnes(fresh)
	} else if len(fresh) == 0 {
		fresh = blankOnes(old)
	}
	var rows []api.Row
	for {
		gone, come := changed(old), changed(fresh)
		if !arePair(gone, come) {
			return nil, false
		}
		rows = appendRows(rows, api.RowOld, gone)
		rows = appendRows(rows, api.RowNew, come)
		old, fresh = old[len(gone):], fresh[len(come):]
		if len(old) == 0 || len(fresh) == 0 {
			return rows, len(old) == len(fresh)
		}
		if old[0] != fresh[0] {
			return nil, false
		}
		rows = appendRows(rows, api.RowBoth, old[:1])
		old, fresh = old[1:], fresh[1:]
	}
}

// blankOnes are the rows of a part that are marked with a blank.
func blankOnes(part []entry) []entry {
	var blank []entry
	for _, e := range part {
		if e.mark == markBoth {
			blank = append(blank, e)
		}
	}
	return blank
}

// changed are the rows of a part ahead of the first one that is marked with a blank.
func changed(part []entry) []entry {
	for i, e := range part {
		if e.mark == markBoth {
			return part[:i]
		}
	}
	return part
}

// arePair tells whether two runs of changed rows belong together.
func arePair(gone, come []entry) bool {
	if len(come) == 0 {
		return areAll(gone, markGone)
	}
	if len(gone) == 0 {
		return areAll(come, markCome)
	}
	return areAll(gone, markChange) && areAll(come, markChange)
}

// areAll tells whether all rows of a run have one mark.
func areAll(run []entry, mark string) bool {
	return !slices.ContainsFunc(run, func(e entry) bool { return e.mark != mark })
}

// appendRows are rows with those of a part behind them, as rows of one kind.
func appendRows(rows []api.Row, kind int, part []entry) []api.Row {
	for _, e := range part {
		rows = append(rows, api.Row{Kind: kind, Text: e.text})
	}
	return rows
}
