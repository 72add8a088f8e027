package intern

import (
	"selvage/api"
	"strings"
)

// spaced is a text, without a line's end, with as much of its blanks as counts. Of several ways the widest holds: it has the others within it.
func spaced(s string, equal int) string {
	switch {
	case equal&api.EqualAll != 0:
		return closed(s)
	case equal&api.EqualAmount != 0:
		return evened(s)
	case equal&api.EqualTail != 0:
		return trimmed(s)
	}
	return s
}

// closed is a text without its blanks.
func closed(s string) string {
	var b strings.Builder
	b.Grow(len(s))
	for i := range len(s) {
		if !isBlank(s[i]) {
			b.WriteByte(s[i])
		}
	}
	return b.String()
}

// evened is a text with one byte 32 in the place of each run of its blanks, and none at its end.
func evened(s string) string {
	s = trimmed(s)
	var b strings.Builder
	b.Grow(len(s))
	for i := range len(s) {
		if !isBlank(s[i]) {
			b.WriteByte(s[i])
		} else if i == 0 || !isBlank(s[i-1]) {
			b.WriteByte(' ')
		}
	}
	return b.String()
}

// trimmed is a text without the blanks at its end.
func trimmed(s string) string {
	n := len(s)
	for n > 0 && isBlank(s[n-1]) {
		n--
	}
	return s[:n]
}

// isBlank tells whether a byte is a blank. A byte 10 is none, even where it ends no line.
func isBlank(c byte) bool {
	switch c {
	case '\t', '\v', '\f', '\r', ' ':
		return true
	}
	return false
}

// lowered is a text with small letters for the great ones of ASCII, and any other byte as it is (which strings.ToLower does not leave be).
func lowered(s string) string {
	var b strings.Builder
	b.Grow(len(s))
	for i := range len(s) {
		c := s[i]
		if 'A' <= c && c <= 'Z' {
			c += 'a' - 'A'
		}
		b.WriteByte(c)
	}
	return b.String()
}
