// Package difftext is what the formats of diffs have in common: a text read line by line, a header's names, numbers and ranges, lines without an end, and the order of hunks.
package difftext

import (
	"selvage/api"
	"selvage/hunks"
	"strings"
)

// Format is how a format with a header tells hunks.
type Format struct {
	Old, Fresh string                                 // what the header's two lines begin with
	Write      func(b *strings.Builder, h api.Hunk)   // writes a hunk that may be
	Begins     func(line string) bool                 // whether a hunk begins with a line
	Read       func(r *Reader) (api.Hunk, int, error) // reads a hunk that begins, whatever it tells; or the line of a fault, and its error
}

// Print is the text of a file's hunks, which may be, and stand in order; a header may tell the names.
func (f Format) Print(old, fresh api.Name, hunks []api.Hunk) string {
	var b strings.Builder
	writeHeader(&b, f.Old, old)
	writeHeader(&b, f.Fresh, fresh)
	for _, h := range hunks {
		f.Write(&b, h)
	}
	return b.String()
}

// Parse reads a header and the hunks behind it, one at least; what is left, and the line of the first fault.
func (f Format) Parse(text string) (api.Name, api.Name, []api.Hunk, string, int, error) {
	if len(text) > api.MaxBytes {
		return fault(0, api.ErrLong)
	}
	r := NewReader(text)
	old, isOld := r.header(f.Old)
	if !isOld {
		return fault(r.Line, api.ErrHead)
	}
	fresh, isFresh := r.header(f.Fresh)
	if !isFresh {
		return fault(r.Line, api.ErrHead)
	}
	l, line, err := r.hunks(f)
	if err != nil {
		return fault(line, err)
	}
	return old, fresh, l, r.Left(), 0, nil
}

// fault is what Parse answers of a text with a fault at a line.
func fault(line int, err error) (api.Name, api.Name, []api.Hunk, string, int, error) {
	return api.Name{}, api.Name{}, nil, "", line, err
}

// hunks reads all hunks that stand one behind the other, one at least; or the line of a fault, and its error.
func (r *Reader) hunks(f Format) ([]api.Hunk, int, error) {
	var l []api.Hunk
	for f.Begins(r.Next()) {
		at := r.Line
		h, line, err := f.Read(r)
		if err != nil {
			return nil, line, err
		}
		if err := hunks.Valid(h); err != nil {
			return nil, at, err
		}
		if !InOrder(l, h) {
			return nil, at, api.ErrOrder
		}
		l = append(l, h)
	}
	if len(l) == 0 {
		return nil, r.Line, api.ErrHunk
	}
	return l, 0, nil
}

// Check tells what is wrong with hunks. What each of them is comes ahead of how they stand, so they are gone through twice.
func Check(l []api.Hunk) error {
	for _, h := range l {
		if err := hunks.Valid(h); err != nil {
			return err
		}
	}
	for i, h := range l {
		if !InOrder(l[:i], h) {
			return api.ErrOrder
		}
	}
	return nil
}

// InOrder tells whether a hunk may stand behind others.
func InOrder(ahead []api.Hunk, h api.Hunk) bool {
	if len(ahead) == 0 {
		return true
	}
	last := ahead[len(ahead)-1]
	return firstLine(h.A, h.N) >= firstLine(last.A, last.N)+last.N &&
		firstLine(h.B, h.M) >= firstLine(last.B, last.M)+last.M
}

// firstLine is the first line of a side that is told as n lines from the line at on; of one without lines that behind its place.
func firstLine(at, n int) int {
	if n == 0 {
		return at + 1
	}
	return at
}
