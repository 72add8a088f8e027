package unified

import (
	"selvage/api"
	"selvage/hunks"
	"selvage/lines"
	"selvage/quote"
	"strconv"
	"strings"
)

// reader goes through a text line by line, and no further than the diff goes: what is left may be long, and have many diffs more.
type reader struct {
	rest string // what is not read yet
	line int    // the number of the next line
}

// next is the next line, always with its end; the empty text, if there is none.
func (r *reader) next() string {
	at := strings.IndexByte(r.rest, '\n')
	if at < 0 && r.rest != "" {
		return r.rest + "\n"
	}
	return r.rest[:at+1]
}

// pass goes on behind the next line, which is handed in.
func (r *reader) pass(line string) {
	// The text's last line may be without the end that next gave it.
	r.rest = r.rest[min(len(line), len(r.rest)):]
	r.line++
}

// header reads a line of the header; false, if the next line is none.
func (r *reader) header(mark string) (api.Name, bool) {
	line := r.next()
	text, ok := strings.CutPrefix(line, mark)
	if !ok {
		return api.Name{}, false
	}
	path, left, err := quote.Unquote(lines.Bare(text))
	stamp, stamped := strings.CutPrefix(left, stampMark)
	if err != nil || left != "" && !stamped {
		return api.Name{}, false
	}
	r.pass(line)
	return api.Name{Path: path, Stamp: stamp}, true
}

// hunks reads all hunks that stand one behind the other, one at least; or the line of a fault, and its error.
func (r *reader) hunks() ([]api.Hunk, int, error) {
	var l []api.Hunk
	for strings.HasPrefix(r.next(), hunkBegin) {
		at := r.line
		h, err := r.hunk()
		if err != nil {
			return nil, r.line, err
		}
		if err := hunks.Valid(h); err != nil {
			return nil, at, err
		}
		if !inOrder(l, h) {
			return nil, at, api.ErrOrder
		}
		l = append(l, h)
	}
	if len(l) == 0 {
		return nil, r.line, api.ErrHunk
	}
	return l, 0, nil
}

// hunk reads a hunk, whatever it tells; an error is that of the next line.
func (r *reader) hunk() (api.Hunk, error) {
	line := r.next()
	h, ok := readPlace(lines.Bare(line))
	if !ok {
		return api.Hunk{}, api.ErrHunk
	}
	r.pass(line)
	h.Rows, ok = r.rows(h.N, h.M)
	if !ok {
		return api.Hunk{}, api.ErrCount
	}
	return h, nil
}

// rows reads so many old lines and so many new ones, and what takes the last one's end; false, if the next line can't be.
func (r *reader) rows(n, m int) ([]api.Row, bool) {
	var rows []api.Row
	for {
		line := r.next()
		if strings.HasPrefix(line, cutMark) {
			if !takeEnd(rows) {
				return nil, false
			}
			r.pass(line)
			continue
		}
		if n == 0 && m == 0 {
			return rows, true
		}
		row, ok := readRow(line)
		if row.Kind != api.RowNew {
			n--
		}
		if row.Kind != api.RowOld {
			m--
		}
		if !ok || n < 0 || m < 0 {
			return nil, false
		}
		rows = append(rows, row)
		r.pass(line)
	}
}

// takeEnd takes the end of the last row's line; false, if there is no row, or its end was taken already.
func takeEnd(rows []api.Row) bool {
	if len(rows) == 0 {
		return false
	}
	last := &rows[len(rows)-1]
	if !lines.Whole(last.Text) {
		return false
	}
	last.Text = lines.Bare(last.Text)
	return true
}

// readRow reads a line as a row; false, if it is none.
func readRow(line string) (api.Row, bool) {
	if line == "\n" {
		return api.Row{Kind: api.RowBoth, Text: line}, true
	}
	if line == "" {
		return api.Row{}, false
	}
	at := strings.IndexByte(marks, line[0])
	if at < 0 {
		return api.Row{}, false
	}
	return api.Row{Kind: api.RowBoth + at, Text: line[1:]}, true
}

// readPlace reads a hunk's first line, without its end, as a hunk without rows; false, if it has not its form.
func readPlace(text string) (api.Hunk, bool) {
	text, begun := strings.CutPrefix(text, hunkBegin)
	old, text, _ := strings.Cut(text, hunkMiddle)
	fresh, text, closed := strings.Cut(text, hunkClose)
	head, headed := strings.CutPrefix(text, " ")
	if !begun || !closed || text != "" && !headed {
		return api.Hunk{}, false
	}
	a, n, isOld := readRange(old)
	b, m, isFresh := readRange(fresh)
	return api.Hunk{A: a, N: n, B: b, M: m, Head: head}, isOld && isFresh
}

// readRange reads a line and a count; false, if a text is no range.
func readRange(text string) (int, int, bool) {
	line, count, counted := strings.Cut(text, ",")
	if !counted {
		count = "1"
	}
	at, isLine := readNumber(line)
	n, isCount := readNumber(count)
	return at, n, isLine && isCount
}

// readNumber reads digits, with noughts ahead or without; false, if a text is no such number, or it is too great.
func readNumber(digits string) (int, bool) {
	n, err := strconv.ParseUint(digits, 10, 64)
	if err != nil || n > api.MaxNumber {
		return 0, false
	}
	return int(n), true
}
