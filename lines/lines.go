// Package lines is layer 1: bytes as lines: see shared/doc/01-lines.md.
package lines

import (
	"selvage/api"
	"strings"
)

const (
	end      = '\n'
	tab      = '\t'
	maxWidth = 255
)

// Split gives the lines of a text, each with its end.
func Split(s string) []string {
	l := make([]string, 0, Count(s))
	for s != "" {
		n := firstLength(s)
		l = append(l, s[:n])
		s = s[n:]
	}
	return l
}

// firstLength is how many bytes the first line of a text has, with its end.
func firstLength(s string) int {
	if at := strings.IndexByte(s, end); at >= 0 {
		return at + 1
	}
	return len(s)
}

// Join is the text of lines.
func Join(l []string) string {
	return strings.Join(l, "")
}

// Valid tells whether lines are those of a text.
func Valid(l []string) bool {
	for i, line := range l {
		if line == "" || firstLength(line) != len(line) {
			return false
		}
		// Only the last line may go without its end: a text has nothing behind such a line.
		if i < len(l)-1 && !Whole(line) {
			return false
		}
	}
	return true
}

// Bare is a line without its end.
func Bare(line string) string {
	if Whole(line) {
		return line[:len(line)-1]
	}
	return line
}

// Whole tells whether a line has its end.
func Whole(line string) bool {
	return line != "" && line[len(line)-1] == end
}

// Place is the line and the place in it of an offset, both from 1 on.
func Place(s string, offset int) (int, int, bool) {
	if offset < 0 || offset >= len(s) {
		return 0, 0, false
	}
	// An end at the offset itself is not ahead of it, so it counts to the line that it ends.
	ahead := s[:offset]
	start := strings.LastIndexByte(ahead, end) + 1
	return strings.Count(ahead, "\n") + 1, offset - start + 1, true
}

// Count is how many lines a text has.
func Count(s string) int {
	n := strings.Count(s, "\n")
	if s != "" && !Whole(s) {
		n++
	}
	return n
}

// Expand is a text with blanks in the place of tabulators, in columns of that width.
func Expand(s string, width int) (string, error) {
	if width < 1 || width > maxWidth {
		return "", api.ErrArg
	}
	if len(s) > api.MaxBytes {
		return "", api.ErrLong
	}
	var b strings.Builder
	b.Grow(len(s))
	column := 0
	for i := range len(s) {
		column = expandByte(&b, s[i], column, width)
		// Asked at each byte: a text of tabulators alone would grow far beyond the limit otherwise.
		if b.Len() > api.MaxBytes {
			return "", api.ErrLong
		}
	}
	return b.String(), nil
}

// expandByte writes a byte that stands at a column, or the blanks in its place, and gives the column behind it.
func expandByte(b *strings.Builder, c byte, column, width int) int {
	switch c {
	case end:
		b.WriteByte(c)
		return 0
	case tab:
		blanks := width - column%width
		b.WriteString(strings.Repeat(" ", blanks))
		return column + blanks
	}
	b.WriteByte(c)
	return column + 1
}
