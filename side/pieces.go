package side

import "strings"

// Kinds of bytes: those of the first two stand together in a piece.
const (
	kindWord = iota
	kindBlank
	kindOther
)

// firstLength is how many bytes the first piece of a text has that is not empty.
func firstLength(s string) int {
	kind, n := kindOf(s[0]), 1
	for kind != kindOther && n < len(s) && kindOf(s[n]) == kind {
		n++
	}
	return n
}

// kindOf is the kind of a byte.
func kindOf(c byte) int {
	switch {
	case c >= 'a' && c <= 'z', c >= 'A' && c <= 'Z', c >= '0' && c <= '9', c == '_', c >= 128:
		return kindWord
	case c == ' ', c == tab:
		return kindBlank
	}
	return kindOther
}

// writeMarked writes pieces between two marks; of no pieces nothing.
func writeMarked(text *strings.Builder, begin string, pieces []string, end string) {
	if len(pieces) == 0 {
		return
	}
	text.WriteString(begin)
	writePieces(text, pieces)
	text.WriteString(end)
}

// writePieces writes pieces one behind the other.
func writePieces(text *strings.Builder, pieces []string) {
	for _, piece := range pieces {
		text.WriteString(piece)
	}
}
