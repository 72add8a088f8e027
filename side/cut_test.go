package side

import (
	"fmt"
	"math"
	"selvage/api"
	"strings"
	"testing"
)

// isColumns fails where Columns does not answer what is wanted.
func isColumns(t *testing.T, width, half, second int, want error) {
	t.Helper()
	h, s, err := Columns(width)
	if h != half || s != second || err != want {
		t.Errorf("Columns(%d): %d, %d, %v, not %d, %d, %v", width, h, s, err, half, second, want)
	}
}

// SI1: widths that may be, and those that may not.
func TestColumns(t *testing.T) {
	for _, width := range []int{math.MinInt, math.MinInt + 1, -4096, -13, -7, -1, 0, 1, 2, 3, 4, 5, 6, 4097, 4098, 8192, api.MaxNumber, math.MaxInt - 1, math.MaxInt} {
		isColumns(t, width, 0, 0, api.ErrArg)
	}
	isColumns(t, 7, 2, 5, nil)
	isColumns(t, 8, 2, 5, nil)
	isColumns(t, 9, 3, 6, nil)
	isColumns(t, 10, 3, 6, nil)
	isColumns(t, 79, 38, 41, nil)
	isColumns(t, 80, 38, 41, nil)
	isColumns(t, 130, 63, 66, nil)
	isColumns(t, 4095, 2046, 2049, nil)
	isColumns(t, 4096, 2046, 2049, nil)
}

// SI1: all widths that may be: the halves are as wide as they can be beside what stands between them.
func TestColumnsOfAllWidths(t *testing.T) {
	for width := 7; width <= 4096; width++ {
		half, second, err := Columns(width)
		if err != nil || second != half+3 || half+3+half > width || half+1+3+half+1 <= width {
			t.Errorf("Columns(%d): %d, %d, %v", width, half, second, err)
		}
	}
}

// isCut fails where Cut does not answer what is wanted: as many columns as it has bytes.
func isCut(t *testing.T, line string, column, width int, want string) {
	t.Helper()
	got, taken := Cut(line, column, width)
	if got != want || taken != len(want) {
		t.Errorf("Cut(%.200q, %d, %d): %.200q, %d, not %.200q, %d", line, column, width, got, taken, want, len(want))
	}
}

// SI2: lines with and without an end, without tabulators.
func TestCut(t *testing.T) {
	for _, c := range []struct {
		line  string
		width int
		want  string
	}{
		{"", 1, ""}, {"", 10, ""},
		{"\n", 1, ""}, {"\n", 10, ""},
		{"abc\n", 10, "abc"}, {"abc", 10, "abc"},
		// it just fits, it is a column too long
		{"abc\n", 3, "abc"}, {"abc", 3, "abc"},
		{"abc\n", 2, "ab"}, {"abc", 2, "ab"},
		{"abc\n", 1, "a"}, {"a\n", 1, "a"}, {"a", 1, "a"},
		{"abc\n", 4, "abc"},
		// blanks are bytes as others are
		{"a  \n", 2, "a "}, {"a  \n", 3, "a  "}, {"  a", 1, " "}, {" \n", 5, " "},
		// any byte takes a column, those of a letter of many bytes too
		{"\x00\r\x1b\x7f\n", 4, "\x00\r\x1b\x7f"}, {"\x00\r\x1b\x7f\n", 2, "\x00\r"},
		{"\xc3\xa4\n", 1, "\xc3"}, {"\xc3\xa4\n", 2, "\xc3\xa4"}, {"\xff\xfe", 1, "\xff"}, {"\b\b\b", 2, "\b\b"}, {"a\rb\n", 3, "a\rb"},
		// strings that are no line: the last byte 10 alone is an end
		{"a\nb\n", 10, "a\nb"}, {"\n\n", 10, "\n"}, {"a\n\n", 1, "a"}, {"a\nb", 2, "a\n"},
		// nothing
		{"abc\n", 0, ""}, {"abc", -1, ""}, {"abc\n", math.MinInt, ""}, {"\t\n", 0, ""}, {"\t", -8, ""}, {"", 0, ""}, {"\n", -1, ""}, {"", math.MinInt, ""},
	} {
		for _, column := range []int{0, 1, 5, 8, 2049, -1, math.MinInt, math.MaxInt} {
			isCut(t, c.line, column, c.width, c.want)
		}
	}
}

// SI2: a byte 9 at each column, within the width, at its end and across it.
func TestCutTabs(t *testing.T) {
	for column := range 9 {
		blanks := strings.Repeat(" ", 8-column%8)
		// The line begins there, or has bytes up to there.
		ahead := strings.Repeat("x", column)
		for width := range 30 {
			want := ""
			if width >= len(blanks) {
				want = blanks
			}
			isCut(t, "\t", column, width, want)
			isCut(t, "\t\n", column, width, want)
			isCut(t, "\t\n", column+8, width, want)
			isCut(t, "\t\n", column+2048, width, want)
			if width > len(blanks) {
				want += "y"
			}
			isCut(t, "\ty\n", column, width, want)
			want = ahead[:min(width, column)]
			if width >= column+len(blanks) {
				want += blanks
			}
			isCut(t, ahead+"\t\n", 0, width, want)
			isCut(t, ahead+"\t", 16, width, want)
		}
	}
	for _, c := range []struct {
		line          string
		column, width int
		want          string
	}{
		{"a\tb\n", 0, 100, "a       b"},
		{"a\tb\n", 8, 100, "a       b"},
		{"a\tb\n", 6, 100, "a b"},
		{"a\tb\n", 7, 100, "a        b"},
		{"\t\t\n", 3, 13, "             "},
		{"\t\t\n", 3, 12, "     "},
		// Behind a byte that does not fit nothing is told, though it would fit.
		{"\tb\n", 0, 7, ""}, {"a\tb\n", 0, 7, "a"}, {"ab\tc", 0, 4, "ab"},
		{"1234567\t\n", 0, 8, "1234567 "}, {"12345678\t\n", 0, 8, "12345678"}, {"12345678\t\n", 0, 16, "12345678        "}, {"12345678\t\n", 0, 15, "12345678"},
		{"\t\n", -1, 8, "        "}, {"\t\n", -1, 7, ""}, {"\t\n", -7, 1, ""}, {"\t\n", -7, 8, "        "}, {"\t\n", math.MinInt, 8, "        "},
	} {
		isCut(t, c.line, c.column, c.width, c.want)
	}
}

// SI2: great columns and great widths.
func TestCutGreat(t *testing.T) {
	isCut(t, "a\tb\n", 0, math.MaxInt, "a       b")
	isCut(t, "a\tb\n", math.MinInt, math.MaxInt, "a       b")
	isCut(t, "abc\n", math.MaxInt, math.MaxInt, "abc")
	// The greatest int is one less than a multiple of 8.
	isCut(t, "\t\n", math.MaxInt, 1, " ")
	isCut(t, "\t\n", math.MaxInt, math.MaxInt, " ")
	isCut(t, "\t\tx\n", math.MaxInt, math.MaxInt, "         x")
	isCut(t, "\t\tx\n", math.MaxInt, 9, "         ")
	isCut(t, "\t\tx\n", math.MaxInt, 8, " ")
	isCut(t, "a\tx\n", math.MaxInt, math.MaxInt, "a        x")
	isCut(t, "\t\n", math.MaxInt-1, math.MaxInt, "  ")
	isCut(t, "\t\n", math.MaxInt-7, 8, "        ")
	isCut(t, "\t\n", math.MaxInt-7, 7, "")
	isCut(t, "\t\n", api.MaxNumber, math.MaxInt, " ")
	long := strings.Repeat("x", api.MaxBytes)
	isCut(t, long, math.MaxInt, math.MaxInt, long)
	isCut(t, long+"\n", 0, api.MaxBytes, long)
	isCut(t, long+"y", 0, api.MaxBytes, long)
	isCut(t, strings.Repeat("\t", api.MaxBytes)+"\n", 1, math.MaxInt, strings.Repeat(" ", 8*api.MaxBytes-1))
}

// cutByWords is what Cut answers by the chapter's words: where each byte ends is found column by column.
func cutByWords(line string, column, width int) string {
	begin := uint64(max(column, 0))
	at := begin
	told := ""
	for _, c := range []byte(strings.TrimSuffix(line, "\n")) {
		next := at + 1
		piece := string([]byte{c})
		if c == '\t' {
			for next%8 != 0 {
				next++
			}
			piece = strings.Repeat(" ", int(next-at))
		}
		if width < 1 || next-begin > uint64(width) {
			break
		}
		at, told = next, told+piece
	}
	return told
}

// SI2: all small lines, with all small widths.
func TestCutOfAllSmall(t *testing.T) {
	for _, line := range smallTexts([]string{"\t", "a", " ", "bcdefgh"}, 4) {
		for _, column := range []int{math.MinInt, -1, 0, 1, 2, 3, 4, 5, 6, 7, 8, 9, 13, 16, 2049, math.MaxInt - 8, math.MaxInt - 1, math.MaxInt} {
			for _, width := range []int{math.MinInt, -1, 0, 1, 2, 3, 5, 7, 8, 9, 15, 16, 17, 24, 31, 32, 33, math.MaxInt} {
				want := cutByWords(line, column, width)
				isCut(t, line, column, width, want)
				isCut(t, line+"\n", column, width, want)
			}
		}
	}
}

// SI2: what a greater width tells begins with what a lesser one does, and all of it takes no more than the width.
func TestCutGrowsWithTheWidth(t *testing.T) {
	next := steps(3)
	for range 300 {
		var b strings.Builder
		for range next.below(20) {
			b.WriteByte("\t\tab \xff\r_"[next.below(8)])
		}
		line, column := b.String(), next.below(20)
		last := ""
		for width := range 100 {
			got, taken := Cut(line, column, width)
			what := fmt.Sprintf("Cut(%q, %d, %d): %q, %d", line, column, width, got, taken)
			if taken > width || taken != len(got) || !strings.HasPrefix(got, last) || strings.Contains(got, "\t") {
				t.Error(what)
			}
			last = got
		}
	}
}
