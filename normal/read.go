package normal

import (
	"selvage/api"
	"selvage/difftext"
	"selvage/lines"
	"strings"
)

// begins tells whether a line belongs to the diff where a command may begin, be it in a form that can't be.
func begins(line string) bool {
	return line != "" && line[0] >= '0' && line[0] <= '9' || strings.HasPrefix(line, difftext.CutMark)
}

// readHunk reads a change as a hunk, whatever it tells; false, if the next line can't be.
func readHunk(r *difftext.Reader) (api.Hunk, bool) {
	line := r.Next()
	h, ok := readCommand(lines.Bare(line))
	if !ok {
		return api.Hunk{}, false
	}
	r.Pass(line)
	old, ok := readSide(r, h.N, api.RowOld, oldMark)
	if !ok || h.N > 0 && h.M > 0 && !readBetween(r) {
		return api.Hunk{}, false
	}
	fresh, ok := readSide(r, h.M, api.RowNew, freshMark)
	h.Rows = append(old, fresh...)
	return h, ok
}

// readSide reads so many lines, each behind a mark, as rows of a kind; false, if the next line can't be.
func readSide(r *difftext.Reader, n, kind int, mark string) ([]api.Row, bool) {
	// A command may say far more lines than there are, so room is made only for those that come.
	var rows []api.Row
	for range n {
		line := r.Next()
		if !strings.HasPrefix(line, mark) {
			return nil, false
		}
		rows = append(rows, api.Row{Kind: kind, Text: r.Row(line, len(mark))})
	}
	return rows, true
}

// readBetween reads the line between the lines of both sides; false, if the next line is another one.
func readBetween(r *difftext.Reader) bool {
	if r.Next() != between {
		return false
	}
	r.Pass(between)
	return true
}

// readCommand reads a command, without its end, as a hunk without rows; false, if it has not its form, or tells a line that can't be.
func readCommand(text string) (api.Hunk, bool) {
	at := strings.IndexAny(text, added+changed+deleted)
	if at < 0 {
		return api.Hunk{}, false
	}
	letter, old, fresh := text[at:at+1], text[:at], text[at+1:]
	var h api.Hunk
	var isOld, isFresh bool
	if letter == added {
		h.A, isOld = difftext.Number(old)
	} else {
		h.A, h.N, isOld = readLines(old)
	}
	if letter == deleted {
		h.B, isFresh = difftext.Number(fresh)
	} else {
		h.B, h.M, isFresh = readLines(fresh)
	}
	return h, isOld && isFresh
}

// readLines reads a range as its first line, and how many there are; false, if it is none, or begins ahead of the first line of all.
func readLines(text string) (int, int, bool) {
	first, last, ok := difftext.Range(text)
	return first, last - first + 1, ok && first > 0
}
