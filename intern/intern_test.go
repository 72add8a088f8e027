package intern

import (
	"errors"
	"math"
	"regexp"
	"selvage/api"
	"selvage/lines"
	"slices"
	"strings"
	"testing"
	"time"
)

const allBlanks = "\t\v\f\r "

// smallTexts are all texts of at most so many of these pieces.
func smallTexts(pieces []string, most int) []string {
	all := []string{""}
	for from := 0; most > 0; most-- {
		longest := all[from:]
		from = len(all)
		for _, s := range longest {
			for _, piece := range pieces {
				all = append(all, s+piece)
			}
		}
	}
	return all
}

// someTexts are all short ones of bytes of every sort that the chapter tells apart.
func someTexts() []string {
	return smallTexts([]string{"a", "A", "b", " ", "\t", "\r", "\n", "\x00", "\xc3"}, 4)
}

// everyByte is a text with each byte once.
func everyByte() string {
	b := make([]byte, 256)
	for i := range b {
		b[i] = byte(i)
	}
	return string(b)
}

// oddWays are numbers that are no sum of ways.
func oddWays() []int {
	return []int{-1, 16, -2, -15, -16, -17, 17, 18, 20, 24, 31, 32, 64, 256, 1 << 20, math.MaxInt32, math.MinInt32, math.MaxInt, math.MinInt, math.MinInt + 1, math.MaxInt - 1}
}

// refKey is a line's key by the words of the chapter, with patterns in the place of loops.
func refKey(line string, equal int) string {
	if equal&api.EqualAll != 0 {
		line = anyBlank.ReplaceAllString(line, "")
	} else if equal&api.EqualAmount != 0 {
		line = anyBlanks.ReplaceAllString(line, " ")
		line = lastBlanks.ReplaceAllString(line, "$1")
	} else if equal&api.EqualTail != 0 {
		line = lastBlanks.ReplaceAllString(line, "$1")
	}
	if equal&api.EqualCase != 0 {
		line = small.Replace(line)
	}
	return line
}

var (
	anyBlank   = regexp.MustCompile(`[\x09\x0b\x0c\x0d\x20]`)
	anyBlanks  = regexp.MustCompile(`[\x09\x0b\x0c\x0d\x20]+`)
	lastBlanks = regexp.MustCompile(`[\x09\x0b\x0c\x0d\x20]+(\n?)\z`)
	small      = strings.NewReplacer("A", "a", "B", "b", "C", "c", "D", "d", "E", "e", "F", "f", "G", "g", "H", "h", "I", "i", "J", "j", "K", "k", "L", "l", "M", "m",
		"N", "n", "O", "o", "P", "p", "Q", "q", "R", "r", "S", "s", "T", "t", "U", "u", "V", "v", "W", "w", "X", "x", "Y", "y", "Z", "z")
)

// keyOf is a line, and its keys: as it is, by EqualCase, EqualAll, EqualAmount and EqualTail alone.
type keyOf struct {
	line                           string
	letters, none, amount, trimmed string
}

// check holds the keys of one way, and those of several: All stands ahead of Amount, that ahead of Tail, and letters become small behind them.
func (k keyOf) check(t *testing.T) {
	t.Helper()
	for equal := range 16 {
		want := k.line
		switch {
		case equal&2 != 0:
			want = k.none
		case equal&4 != 0:
			want = k.amount
		case equal&8 != 0:
			want = k.trimmed
		}
		if equal&1 != 0 {
			want = small.Replace(want)
		}
		if equal == 1 && want != k.letters {
			t.Errorf("the table is wrong about %q: %q", k.line, k.letters)
		}
		if got := Key(k.line, equal); got != want {
			t.Errorf("Key(%q, %d) = %q, not %q", k.line, equal, got, want)
		}
	}
}

// IN1: ordinary lines, and the edges that the chapter names.
func TestKey(t *testing.T) {
	for _, k := range []keyOf{
		{"x = Y + 1;\n", "x = y + 1;\n", "x=Y+1;\n", "x = Y + 1;\n", "x = Y + 1;\n"},
		{"\tif  (A)\t{ \n", "\tif  (a)\t{ \n", "if(A){\n", " if (A) {\n", "\tif  (A)\t{\n"},
		{"", "", "", "", ""},
		{"\n", "\n", "\n", "\n", "\n"},
		{"a", "a", "a", "a", "a"},
		{"a\n", "a\n", "a\n", "a\n", "a\n"},
		{"A", "a", "A", "A", "A"},
		{"A\n", "a\n", "A\n", "A\n", "A\n"},
		// blanks at the beginning: they are a run as any other
		{" a\n", " a\n", "a\n", " a\n", " a\n"},
		{" \t a", " \t a", "a", " a", " \t a"},
		// within
		{"a b\n", "a b\n", "ab\n", "a b\n", "a b\n"},
		{"a\t\t b", "a\t\t b", "ab", "a b", "a\t\t b"},
		{"a b  c   d\n", "a b  c   d\n", "abcd\n", "a b c d\n", "a b  c   d\n"},
		// ahead of the end, and at the end of a line without one
		{"a \n", "a \n", "a\n", "a\n", "a\n"},
		{"a\r\n", "a\r\n", "a\n", "a\n", "a\n"},
		{"a\t \v\f\r\n", "a\t \v\f\r\n", "a\n", "a\n", "a\n"},
		{"a ", "a ", "a", "a", "a"},
		{"a \t", "a \t", "a", "a", "a"},
		{" a b ", " a b ", "ab", " a b", " a b"},
		{"  a  b  \n", "  a  b  \n", "ab\n", " a b\n", "  a  b\n"},
		// runs of unlike blanks
		{"a\t\v\f\r b", "a\t\v\f\r b", "ab", "a b", "a\t\v\f\r b"},
		{"\r \f\tA\v \rB\t\v\n", "\r \f\ta\v \rb\t\v\n", "AB\n", " A B\n", "\r \f\tA\v \rB\n"},
		// nothing but blanks
		{" ", " ", "", "", ""},
		{"  ", "  ", "", "", ""},
		{" \n", " \n", "\n", "\n", "\n"},
		{"\t\v\f\r ", "\t\v\f\r ", "", "", ""},
		{"\t\v\f\r \n", "\t\v\f\r \n", "\n", "\n", "\n"},
		// a byte 10 within, which is no blank and parts runs; at the end twice; with blanks between
		{"a\nb", "a\nb", "a\nb", "a\nb", "a\nb"},
		{"a\nb\n", "a\nb\n", "a\nb\n", "a\nb\n", "a\nb\n"},
		{"a \n b", "a \n b", "a\nb", "a \n b", "a \n b"},
		{"a  \n\t\tb \n", "a  \n\t\tb \n", "a\nb\n", "a \n b\n", "a  \n\t\tb\n"},
		{"\n\n", "\n\n", "\n\n", "\n\n", "\n\n"},
		{"a\n\n", "a\n\n", "a\n\n", "a\n\n", "a\n\n"},
		{"a  \n\n", "a  \n\n", "a\n\n", "a \n\n", "a  \n\n"},
		{"a\n \n", "a\n \n", "a\n\n", "a\n\n", "a\n\n"},
		{"a \n \t\n", "a \n \t\n", "a\n\n", "a \n\n", "a \n\n"},
		{"\n ", "\n ", "\n", "\n", "\n"},
		{" \n ", " \n ", "\n", " \n", " \n"},
		{" \n \n", " \n \n", "\n\n", " \n\n", " \n\n"},
		{"\n  \n\n", "\n  \n\n", "\n\n\n", "\n \n\n", "\n  \n\n"},
		// bytes on both sides of blanks, and of letters; bytes of 128 and more; a byte 0
		{"\x08\x0e\x1f!", "\x08\x0e\x1f!", "\x08\x0e\x1f!", "\x08\x0e\x1f!", "\x08\x0e\x1f!"},
		{"@AZ[`az{", "@az[`az{", "@AZ[`az{", "@AZ[`az{", "@AZ[`az{"},
		{"\x80\x85\xa0\xff \n", "\x80\x85\xa0\xff \n", "\x80\x85\xa0\xff\n", "\x80\x85\xa0\xff\n", "\x80\x85\xa0\xff\n"},
		{"\u00c4\u2028\u00a0 ", "\u00c4\u2028\u00a0 ", "\u00c4\u2028\u00a0", "\u00c4\u2028\u00a0", "\u00c4\u2028\u00a0"},
		{"\xc1\xda\xe1\xfa\n", "\xc1\xda\xe1\xfa\n", "\xc1\xda\xe1\xfa\n", "\xc1\xda\xe1\xfa\n", "\xc1\xda\xe1\xfa\n"},
		{"\x00", "\x00", "\x00", "\x00", "\x00"},
		{" \x00  \x00 \n", " \x00  \x00 \n", "\x00\x00\n", " \x00 \x00\n", " \x00  \x00\n"},
		{"A\x00B \x00", "a\x00b \x00", "A\x00B\x00", "A\x00B \x00", "A\x00B \x00"},
	} {
		k.check(t)
	}
}

// IN1: the chapter's examples.
func TestKeyExamples(t *testing.T) {
	for _, c := range []struct {
		line  string
		equal int
		want  string
	}{
		{"A  b \n", api.EqualAmount, "A b\n"},
		{"A  b \n", api.EqualAll, "Ab\n"},
		{"A  b \n", api.EqualTail, "A  b\n"},
		{"A  b \n", api.EqualCase + api.EqualAmount, "a b\n"},
		{"a ", api.EqualTail, "a"},
	} {
		if got := Key(c.line, c.equal); got != c.want {
			t.Errorf("Key(%q, %d) = %q, not %q", c.line, c.equal, got, c.want)
		}
	}
}

// IN1: each of 256 bytes, at the beginning, within, ahead of the end, at the end of a line without one, doubled, and alone.
func TestKeyOfEachByte(t *testing.T) {
	for _, b := range []byte(everyByte()) {
		c := string([]byte{b})
		letter := c
		if b >= 'A' && b <= 'Z' {
			letter = string([]byte{b + 32})
		}
		none, one, last := c, c, c
		if strings.Contains(allBlanks, c) {
			none, one, last = "", " ", ""
		}
		more, end := c+c, "\n"
		if none == "" {
			more = one
		}
		if b == '\n' {
			end = ""
		}
		for _, k := range []keyOf{
			{c + "x", letter + "x", none + "x", one + "x", c + "x"},
			{"x" + c + "y", "x" + letter + "y", "x" + none + "y", "x" + one + "y", "x" + c + "y"},
			{"x" + c + c + "y", "x" + letter + letter + "y", "x" + none + none + "y", "x" + more + "y", "x" + c + c + "y"},
			{"x" + c + "\n", "x" + letter + "\n", "x" + none + "\n", "x" + last + "\n", "x" + last + "\n"},
			{"x" + c, "x" + letter, "x" + none, "x" + last, "x" + last},
			{c, letter, none, last, last},
			{c + end, letter + end, none + end, last + end, last + end},
		} {
			k.check(t)
		}
	}
}

// IN1: the keys of all short texts by every sum of ways are those of the chapter's words.
func TestKeyOfShortTexts(t *testing.T) {
	texts := append(someTexts(), smallTexts([]string{"x", "\t", "\v", "\f", "\r", " ", "\n"}, 4)...)
	texts = append(texts, everyByte(), everyByte()+everyByte(), strings.Repeat(" a", 1000), strings.Repeat(" \n", 1000))
	for _, s := range texts {
		for equal := range 16 {
			if got, want := Key(s, equal), refKey(s, equal); got != want {
				t.Errorf("Key(%q, %d) = %q, not %q", s, equal, got, want)
			}
		}
	}
}

// IN1: of numbers that are no sum of ways the key is the line, and the same by 0.
func TestKeyOfOddWays(t *testing.T) {
	for _, equal := range append(oddWays(), 0) {
		for _, line := range []string{"", "\n", " A  b \n", "A ", "\t", "a \n \n", everyByte()} {
			if got := Key(line, equal); got != line {
				t.Errorf("Key(%q, %d) = %q", line, equal, got)
			}
		}
	}
}

// IN1: a line with its end and one without have unlike keys, by every sum of ways; and the end is kept.
func TestKeyKeepsTheEnd(t *testing.T) {
	for _, s := range someTexts() {
		for equal := range 16 {
			if lines.Whole(Key(s, equal)) != lines.Whole(s) && !strings.Contains(lines.Bare(s), "\n") {
				t.Errorf("Key(%q, %d) = %q", s, equal, Key(s, equal))
			}
			if !lines.Whole(s) && Key(s, equal) == Key(s+"\n", equal) {
				t.Errorf("Key(%q, %d) is that of the whole line, %q", s, equal, Key(s, equal))
			}
		}
	}
}

// IN1, IN4: a key is its own key where a text keeps its end or has no byte 10 at all: what was taken out was all that does not count.
func TestKeyOfKeys(t *testing.T) {
	for _, s := range someTexts() {
		if strings.Contains(lines.Bare(s), "\n") {
			continue
		}
		for equal := range 16 {
			if key := Key(s, equal); Key(key, equal) != key {
				t.Errorf("Key(%q, %d) = %q, whose key is %q", s, equal, key, Key(key, equal))
			}
		}
	}
}

// IN3: Blank.
func TestBlank(t *testing.T) {
	for line, want := range map[string]bool{
		"": true, "\n": true, " ": true, "\t": true, "\v": true, "\f": true, "\r": true, " \n": true, "\t\v\f\r ": true, "\t\v\f\r \n": true, "\r\n": true,
		"a": false, "a\n": false, " a": false, "a ": false, " a \n": false, "\na": false, "\x00": false, "\x00\n": false, " \x00 ": false,
		"\n\n": false, " \n\n": false, "\n \n": false, "\n ": false, " \n ": false, " \n \n": false, "\n\n\n": false,
		"\x08": false, "\x0e": false, "\x1f": false, "!": false, "\x80": false, "\x85": false, "\xa0": false, "\xff": false, "\u00a0": false, "\u2003\n": false,
		" \t \x0e\n": false, ".\n": false,
	} {
		if got := Blank(line); got != want {
			t.Errorf("Blank(%q) = %v", line, got)
		}
	}
	onlyBlanks := regexp.MustCompile(`\A[\x09\x0b\x0c\x0d\x20]*\n?\z`)
	texts := append(someTexts(), smallTexts([]string{"x", "\t", "\v", "\f", "\r", " ", "\n"}, 4)...)
	for _, s := range append(texts, strings.Repeat(" ", 1000)+"\n", strings.Repeat("\t", 1000)+"x", "x"+strings.Repeat(" ", 1000)) {
		if got, want := Blank(s), onlyBlanks.MatchString(s); got != want {
			t.Errorf("Blank(%q) = %v", s, got)
		}
	}
}

// IN3: each of 256 bytes, alone, with an end, and among blanks.
func TestBlankOfEachByte(t *testing.T) {
	for _, b := range []byte(everyByte()) {
		c := string([]byte{b})
		is := strings.Contains(allBlanks, c)
		for line, want := range map[string]bool{c: is || c == "\n", c + "\n": is, " " + c: is || c == "\n", c + " ": is, " " + c + "\t\n": is} {
			if got := Blank(line); got != want {
				t.Errorf("Blank(%q) = %v", line, got)
			}
		}
	}
}

// isErrno holds that an error is an api.Errno, or wraps one.
func isErrno(t *testing.T, what string, err error) {
	t.Helper()
	var e api.Errno
	if err != nil && !errors.As(err, &e) {
		t.Errorf("%s: %v is no api.Errno", what, err)
	}
}

// P1: no call panics or fails but by an api.Errno, whatever it is given.
func TestNothingPanics(t *testing.T) {
	texts := append(someTexts(), everyByte(), strings.Repeat(" ", api.MaxBytes+1), strings.Repeat("\n", api.MaxBytes+1), strings.Repeat("A", api.MaxBytes+1))
	ways := append(oddWays(), 0, 1, 2, 4, 8, 15)
	for _, s := range texts {
		Blank(s)
		for _, equal := range ways {
			Key(s, equal)
		}
	}
	for _, equal := range ways {
		a, b, err := Ids(texts, texts, equal)
		isErrno(t, "Ids", err)
		if err != nil && (len(a) > 0 || len(b) > 0) {
			t.Errorf("Ids by %d: numbers beside %v", equal, err)
		}
	}
}

// soon fails where a call takes long.
func soon(t *testing.T, what string, call func()) {
	t.Helper()
	done := make(chan struct{})
	go func() {
		call()
		close(done)
	}()
	select {
	case <-done:
	case <-time.After(20 * time.Second):
		t.Fatal(what, "takes too long")
	}
}

// P1: calls end, of long lines and of many.
func TestEndsSoon(t *testing.T) {
	soon(t, "a long line", func() {
		long := strings.Repeat("A \t", api.MaxBytes)
		for equal := range 16 {
			Key(long, equal)
			Blank(strings.Repeat(" ", api.MaxBytes) + "x")
		}
	})
	soon(t, "many lines", func() {
		many := make([]string, 1<<19)
		for i := range many {
			many[i] = strings.Repeat(" ", i%7) + string([]byte{byte('a' + i%26), byte(i >> 8), byte(i >> 16)}) + "\n"
		}
		if _, _, err := Ids(many, slices.Clone(many), api.EqualCase+api.EqualAmount); err != nil {
			t.Error(err)
		}
	})
}
