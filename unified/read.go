package unified

import (
	"selvage/api"
	"selvage/difftext"
	"selvage/lines"
	"strings"
)

// begins tells whether a hunk begins with a line, be it in a form that can't be.
func begins(line string) bool {
	return strings.HasPrefix(line, hunkBegin)
}

// readHunk reads a hunk, whatever it tells; or the line of a fault, and its error.
func readHunk(r *difftext.Reader) (api.Hunk, int, error) {
	line := r.Next()
	h, ok := readPlace(lines.Bare(line))
	if !ok {
		return api.Hunk{}, r.Line, api.ErrHunk
	}
	r.Pass(line)
	h.Rows, ok = readRows(r, h.N, h.M)
	if !ok {
		return api.Hunk{}, r.Line, api.ErrCount
	}
	return h, 0, nil
}

// readRows reads so many old lines and so many new ones; false, if the next line can't be.
func readRows(r *difftext.Reader, n, m int) ([]api.Row, bool) {
	var rows []api.Row
	for n > 0 || m > 0 {
		line := r.Next()
		kind, mark, ok := readMark(line)
		if kind != api.RowNew {
			n--
		}
		if kind != api.RowOld {
			m--
		}
		if !ok || n < 0 || m < 0 {
			return nil, false
		}
		rows = append(rows, api.Row{Kind: kind, Text: r.Row(line, mark)})
	}
	return rows, !strings.HasPrefix(r.Next(), difftext.CutMark)
}

// readMark tells of a line which kind of row it is, and how many bytes of it are the mark; false, if it is no row.
func readMark(line string) (int, int, bool) {
	if line == "\n" {
		return api.RowBoth, 0, true
	}
	if line == "" {
		return 0, 0, false
	}
	at := strings.IndexByte(marks, line[0])
	return api.RowBoth + at, 1, at >= 0
}

// readPlace reads a hunk's first line, without its end, as a hunk without rows; false, if it has not its form.
func readPlace(text string) (api.Hunk, bool) {
	text, begun := strings.CutPrefix(text, hunkBegin)
	old, text, _ := strings.Cut(text, hunkMiddle)
	fresh, text, closed := strings.Cut(text, hunkClose)
	head, headed := difftext.Head(text)
	if !begun || !closed || !headed {
		return api.Hunk{}, false
	}
	a, n, isOld := readRange(old)
	b, m, isFresh := readRange(fresh)
	return api.Hunk{A: a, N: n, B: b, M: m, Head: head}, isOld && isFresh
}

// readRange reads a line and a count; false, if a text is no range.
func readRange(text string) (int, int, bool) {
	line, count, counted := strings.Cut(text, ",")
	if !counted {
		count = "1"
	}
	at, isLine := difftext.Number(line)
	n, isCount := difftext.Number(count)
	return at, n, isLine && isCount
}
