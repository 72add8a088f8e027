package hunks

import (
	"selvage/api"
	"selvage/edits"
	"selvage/lines"
)

// Build is an edit script's hunks, with so many lines of context.
func Build(s []api.Change, a, b []string, context int) ([]api.Hunk, error) {
	if !isContext(context) {
		return nil, api.ErrArg
	}
	if !lines.Valid(a) || !lines.Valid(b) {
		return nil, api.ErrForm
	}
	changes, err := edits.Normal(s, len(a), len(b))
	if err != nil {
		return nil, err
	}
	if !endsFit(changes, a, b) {
		return nil, api.ErrApply
	}
	var built []api.Hunk
	for len(changes) > 0 {
		n := groupLength(changes, context)
		built = append(built, ofGroup(changes[:n], a, b, context))
		changes = changes[n:]
	}
	return built, nil
}

// isContext tells whether so many lines of context may be asked for.
func isContext(context int) bool {
	return context >= 0 && context <= api.MaxNumber
}

// endsFit tells whether each line that stays by a normal script is whole in both texts or in neither. A line that is not whole is the last one of its text, so if it stays, it is the last one that does: no other pair is asked.
func endsFit(changes []api.Change, a, b []string) bool {
	old, fresh := len(a), len(b)
	if last := len(changes) - 1; last >= 0 && changes[last].A+changes[last].N == len(a) {
		old, fresh = changes[last].A, changes[last].B
	}
	return old == 0 || lines.Whole(a[old-1]) == lines.Whole(b[fresh-1])
}

// groupLength is how many changes, from the first one on, belong to its group.
func groupLength(changes []api.Change, context int) int {
	n := 1
	for n < len(changes) && changes[n].A-changes[n-1].A-changes[n-1].N <= 2*context {
		n++
	}
	return n
}

// ofGroup is the hunk of a group of changes.
func ofGroup(group []api.Change, a, b []string, context int) api.Hunk {
	first, last := group[0], group[len(group)-1]
	more := min(context, first.A)
	from := first.A - more
	to := min(last.A+last.N+context, len(a))
	_, come := edits.Cost(group)
	rows := make([]api.Row, 0, to-from+come)
	at := from
	for _, c := range group {
		rows = appendRows(rows, api.RowBoth, a[at:c.A])
		at = c.A + c.N
		rows = appendRows(rows, api.RowOld, a[c.A:at])
		rows = appendRows(rows, api.RowNew, b[c.B:c.B+c.M])
	}
	rows = appendRows(rows, api.RowBoth, a[at:to])
	return spot{from, first.B - more}.hunk(rows)
}
