package normal

import (
	"selvage/api"
	"selvage/difftext"
	"strings"
)

// isChange tells whether rows may be those of a change: old ones, and then new ones. That there are no other kinds is asked elsewhere.
func isChange(rows []api.Row) bool {
	for i, r := range rows {
		if r.Kind == api.RowBoth || r.Kind == api.RowOld && i > 0 && rows[i-1].Kind == api.RowNew {
			return false
		}
	}
	return true
}

// changeOf is the change that a hunk without context is.
func changeOf(h api.Hunk) api.Change {
	// A hunk tells the first line of a side, a change how many lines are ahead of it; of a side without lines a hunk tells that too.
	return api.Change{A: h.A - min(h.N, 1), N: h.N, B: h.B - min(h.M, 1), M: h.M}
}

// writeChange writes the text of a change with these lines.
func writeChange(text *strings.Builder, c api.Change, old, fresh []string) {
	text.WriteString(command(c))
	text.WriteByte('\n')
	writeSide(text, oldMark, old)
	if c.N > 0 && c.M > 0 {
		text.WriteString(between)
	}
	writeSide(text, freshMark, fresh)
}

// command is a change's command.
func command(c api.Change) string {
	letter := changed
	if c.N == 0 {
		letter = added
	} else if c.M == 0 {
		letter = deleted
	}
	return sideText(c.A, c.N) + letter + sideText(c.B, c.M)
}

// sideText is what a command tells of a side with n lines, and so many ahead of them: the range of the lines, or, if there are none, the number of those ahead.
func sideText(ahead, n int) string {
	return difftext.RangeText(ahead+min(n, 1), n)
}

// writeSide writes the lines of a side.
func writeSide(text *strings.Builder, mark string, side []string) {
	for _, line := range side {
		difftext.WriteRow(text, mark, line)
	}
}
