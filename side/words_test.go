package side

import (
	"regexp"
	"slices"
	"strings"
	"testing"
)

// isWords fails where Words does not answer what is wanted.
func isWords(t *testing.T, s string, want ...string) {
	t.Helper()
	if got := Words(s); !slices.Equal(got, want) {
		t.Errorf("Words(%q): %q, not %q", s, got, want)
	}
}

// SI5: runs of each kind, one behind the other.
func TestWords(t *testing.T) {
	isWords(t, "")
	// one kind alone
	isWords(t, "a", "a")
	isWords(t, "abc", "abc")
	isWords(t, "aZ09_", "aZ09_")
	isWords(t, "\x80\xff", "\x80\xff")
	isWords(t, "a\xc3\xa4b\xffc_1", "a\xc3\xa4b\xffc_1")
	isWords(t, " ", " ")
	isWords(t, "\t", "\t")
	isWords(t, " \t\t  \t", " \t\t  \t")
	isWords(t, "\n", "\n")
	isWords(t, "\n\n", "\n", "\n")
	isWords(t, "\r\n", "\r", "\n")
	isWords(t, "...", ".", ".", ".")
	isWords(t, "\x00\x00\x7f\x7f", "\x00", "\x00", "\x7f", "\x7f")
	// one behind the other
	isWords(t, "ab \tcd", "ab", " \t", "cd")
	isWords(t, " ab ", " ", "ab", " ")
	isWords(t, "ab+cd", "ab", "+", "cd")
	isWords(t, "+ab+", "+", "ab", "+")
	isWords(t, "+ +", "+", " ", "+")
	isWords(t, "  ++\t", "  ", "+", "+", "\t")
	isWords(t, "a \n\tb\r\n", "a", " ", "\n", "\t", "b", "\r", "\n")
	isWords(t, "x_1-y", "x_1", "-", "y")
	isWords(t, "\x7f\x80\xff\x7f", "\x7f", "\x80\xff", "\x7f")
	isWords(t, "\v\f ", "\v", "\f", " ")
	isWords(t, "foo(bar, baz);\n", "foo", "(", "bar", ",", " ", "baz", ")", ";", "\n")
}

// SI5: each byte: beside itself, a letter and a blank.
func TestWordsOfAllBytes(t *testing.T) {
	for i := range 256 {
		c := string([]byte{byte(i)})
		switch {
		case i >= 128 || strings.Contains("ABCDEFGHIJKLMNOPQRSTUVWXYZabcdefghijklmnopqrstuvwxyz0123456789_", c):
			isWords(t, c+c, c+c)
			isWords(t, "x"+c+"x", "x"+c+"x")
			isWords(t, " "+c+" ", " ", c, " ")
		case i == 9 || i == 32:
			isWords(t, c+c, c+c)
			isWords(t, "x"+c+"x", "x", c, "x")
			isWords(t, " "+c+" ", " "+c+" ")
		default:
			isWords(t, c+c, c, c)
			isWords(t, "x"+c+"x", "x", c, "x")
			isWords(t, " "+c+" ", " ", c, " ")
		}
	}
}

// pieceForm is the form of a piece, each byte being a rune of the same number.
var pieceForm = regexp.MustCompile(`(?s)[A-Za-z0-9_\x{80}-\x{ff}]+|[\t ]+|.`)

// wordsByForm is what Words answers, by the form of a piece.
func wordsByForm(s string) []string {
	var wide []rune
	for _, c := range []byte(s) {
		wide = append(wide, rune(c))
	}
	var pieces []string
	for _, found := range pieceForm.FindAllString(string(wide), -1) {
		var piece []byte
		for _, r := range found {
			piece = append(piece, byte(r))
		}
		pieces = append(pieces, string(piece))
	}
	return pieces
}

// isWordsByForm fails where Words does not answer what the form says, or its pieces do not make up the text.
func isWordsByForm(t *testing.T, s string) {
	t.Helper()
	isWords(t, s, wordsByForm(s)...)
	got := Words(s)
	if strings.Join(got, "") != s || slices.Contains(got, "") {
		t.Errorf("Words(%q): %q", s, got)
	}
}

// SI5, SI7: the pieces are those of the form; joined, they are the text, and none is empty.
func TestWordsMakeUpTheText(t *testing.T) {
	for _, s := range smallTexts([]string{"a", "_", "7", "\xe4", " ", "\t", "\n", "+", "\x7f"}, 5) {
		isWordsByForm(t, s)
	}
	next := steps(1)
	for range 20000 {
		var b strings.Builder
		for range next.below(40) {
			b.WriteByte(byte(next.below(256)))
		}
		isWordsByForm(t, b.String())
	}
}
