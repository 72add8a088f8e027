package side

import (
	"selvage/lines"
	"strings"
)

const (
	markAlike      = ' '
	markUnlike     = '|'
	markOld        = '<'
	markNew        = '>'
	markOldWithout = '\\'
	markNewWithout = '/'
)

// page is a text in two columns, line by line.
type page struct {
	text         strings.Builder
	half, second int
	blanks       string // from a line's beginning up to the mark
}

// newPage is a page without lines.
func newPage(half, second int) *page {
	return &page{half: half, second: second, blanks: strings.Repeat(" ", half+1)}
}

// change writes the lines of a change, those that are left on one side alone.
func (p *page) change(old, fresh []string) {
	n := min(len(old), len(fresh))
	p.beside(old[:n], fresh[:n])
	for _, line := range old[n:] {
		p.row(line, markOld, "")
	}
	for _, line := range fresh[n:] {
		p.row("", markNew, line)
	}
}

// beside writes as many old lines as new ones beside each other.
func (p *page) beside(old, fresh []string) {
	for i, line := range old {
		p.row(line, markOf(line, fresh[i]), fresh[i])
	}
}

// markOf is the mark between two lines beside each other.
func markOf(old, fresh string) byte {
	switch {
	case old == fresh:
		return markAlike
	case lines.Bare(old) != lines.Bare(fresh):
		return markUnlike
	case lines.Whole(fresh):
		return markOldWithout
	}
	return markNewWithout
}

// row writes a line of the page; a side without a line is as one without bytes.
func (p *page) row(old string, mark byte, fresh string) {
	left, taken := Cut(old, 0, p.half)
	right, _ := Cut(fresh, p.second, p.half)
	p.text.WriteString(left)
	// Blanks are written only ahead of something: what ends with the old line's own bytes keeps just these.
	if mark != markAlike || right != "" {
		p.text.WriteString(p.blanks[taken:])
		p.text.WriteByte(mark)
	}
	if right != "" {
		p.text.WriteByte(' ')
		p.text.WriteString(right)
	}
	p.text.WriteByte('\n')
}
