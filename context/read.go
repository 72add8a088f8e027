package context

import (
	"math"
	"selvage/api"
	"selvage/difftext"
	"selvage/hunks"
	"selvage/lines"
	"strings"
)

// begins tells whether a line is a hunk's first one.
func begins(line string) bool {
	_, ok := readStars(line)
	return ok
}

// readStars reads a hunk's first line as its heading; false, if it is none.
func readStars(line string) (string, bool) {
	behind, starred := strings.CutPrefix(lines.Bare(line), stars)
	head, headed := difftext.Head(behind)
	return head, starred && headed
}

// readHunk reads a hunk, whatever it tells; or the line of a fault, and its error.
func readHunk(r *difftext.Reader) (api.Hunk, int, error) {
	at, line := r.Line, r.Next()
	head, _ := readStars(line)
	r.Pass(line)
	oldRange, ok := readRange(r, oldMark, oldClose)
	if !ok {
		return api.Hunk{}, r.Line, api.ErrHunk
	}
	old := readPart(r, markGone, math.MaxInt)
	freshRange, ok := readRange(r, freshMark, freshClose)
	if !ok {
		return api.Hunk{}, r.Line, api.ErrHunk
	}
	fresh := readPart(r, markCome, freshRange.count)
	rows, ok := together(old, fresh)
	if !ok {
		return api.Hunk{}, at, api.ErrHunk
	}
	h := api.Hunk{A: oldRange.first, B: freshRange.first, Head: head, Rows: rows}
	oldLines, freshLines := hunks.Sides(h)
	h.N, h.M = len(oldLines), len(freshLines)
	if !oldRange.says(h.N) || !freshRange.says(h.M) {
		return api.Hunk{}, at, api.ErrCount
	}
	return h, 0, nil
}

// span is what a range tells: lines from the first on. One number alone may also stand for no line.
type span struct {
	first, count int
	single       bool
}

// says tells whether a range stands for so many lines.
func (s span) says(n int) bool {
	return n == s.count || s.single && n == 0
}

// readRange reads the line ahead of a part; false, if the next line is none.
func readRange(r *difftext.Reader, mark, end string) (span, bool) {
	line := r.Next()
	text, marked := strings.CutPrefix(lines.Bare(line), mark)
	text, ended := strings.CutSuffix(text, end)
	s, ok := readSpan(text)
	if !marked || !ended || !ok {
		return span{}, false
	}
	r.Pass(line)
	return s, true
}

// readSpan reads one number, or two; false, if a text is no range.
func readSpan(text string) (span, bool) {
	first, last, ok := difftext.Range(text)
	return span{first, last - first + 1, !strings.Contains(text, ",")}, ok
}
