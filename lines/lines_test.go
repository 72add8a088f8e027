package lines

import (
	"errors"
	"math"
	"selvage/api"
	"slices"
	"strings"
	"testing"
)

// smallTexts are all texts of at most so many of these bytes.
func smallTexts(alphabet string, most int) []string {
	all := []string{""}
	for from := 0; most > 0; most-- {
		longest := all[from:]
		from = len(all)
		for _, s := range longest {
			for i := range len(alphabet) {
				all = append(all, s+alphabet[i:i+1])
			}
		}
	}
	return all
}

// smallLists are all lists of at most so many of these strings.
func smallLists(strs []string, most int) [][]string {
	all := [][]string{nil}
	for from := 0; most > 0; most-- {
		longest := all[from:]
		from = len(all)
		for _, l := range longest {
			for _, s := range strs {
				all = append(all, append(slices.Clone(l), s))
			}
		}
	}
	return all
}

// everyByte is a text with each byte once.
func everyByte() string {
	b := make([]byte, 256)
	for i := range b {
		b[i] = byte(i)
	}
	return string(b)
}

// oddTexts are texts whose bytes are more than letters and ends.
func oddTexts() []string {
	return []string{
		"\x00", "\xff\n\xfe", "\r\n\r\n", "a\rb", "\u00e4\n\u00f6", "\u2028\u0085\v\f", "\xc3\n\xa4",
		everyByte(), everyByte() + everyByte(), strings.Repeat("\n", 1000), strings.Repeat("x", 1000),
	}
}

func texts() []string {
	return append(smallTexts("a \t\n", 6), oddTexts()...)
}

// L1: Split.
func TestSplit(t *testing.T) {
	for _, c := range []struct {
		s    string
		want []string
	}{
		{"", nil},
		{"a", []string{"a"}},
		{"\n", []string{"\n"}},
		{"a\n", []string{"a\n"}},
		{"a\nb", []string{"a\n", "b"}},
		{"a\nb\n", []string{"a\n", "b\n"}},
		{"\n\n", []string{"\n", "\n"}},
		{"\na", []string{"\n", "a"}},
		{"a\n\n\nb", []string{"a\n", "\n", "\n", "b"}},
		{"a\r\nb\r", []string{"a\r\n", "b\r"}},
		{"\x00\n\xff", []string{"\x00\n", "\xff"}},
		{"a\u2028b\vc\fd\u0085e", []string{"a\u2028b\vc\fd\u0085e"}},
	} {
		if got := Split(c.s); !slices.Equal(got, c.want) {
			t.Errorf("Split(%q) = %q, not %q", c.s, got, c.want)
		}
	}
}

// L1: Join, of whatever strings.
func TestJoin(t *testing.T) {
	for _, c := range []struct {
		l    []string
		want string
	}{
		{nil, ""},
		{[]string{}, ""},
		{[]string{""}, ""},
		{[]string{"", "", ""}, ""},
		{[]string{"a"}, "a"},
		{[]string{"a\n", "b"}, "a\nb"},
		{[]string{"a", "b\n"}, "ab\n"},
		{[]string{"", "a\nb\n\n", "", "c", "\n"}, "a\nb\n\nc\n"},
		{[]string{"\xc3", "\xa4", "\x00"}, "\u00e4\x00"},
	} {
		if got := Join(c.l); got != c.want {
			t.Errorf("Join(%q) = %q, not %q", c.l, got, c.want)
		}
	}
}

// L1: Valid.
func TestValid(t *testing.T) {
	for _, c := range []struct {
		l    []string
		want bool
	}{
		{nil, true},
		{[]string{}, true},
		{[]string{"a"}, true},
		{[]string{"a\n"}, true},
		{[]string{"\n"}, true},
		{[]string{"\n", "\n"}, true},
		{[]string{"a\n", "b"}, true},
		{[]string{"a\n", "b\n"}, true},
		{[]string{"a\r\n", "\r"}, true},
		{[]string{""}, false},
		{[]string{"", ""}, false},
		{[]string{"", "a"}, false},
		{[]string{"a\n", ""}, false},
		{[]string{"a\n", "", "b"}, false},
		{[]string{"a", "b\n"}, false},
		{[]string{"a", "b"}, false},
		{[]string{"a\n", "b", "c\n"}, false},
		{[]string{"a\nb"}, false},
		{[]string{"a\nb\n"}, false},
		{[]string{"\n\n"}, false},
		{[]string{"\na"}, false},
		{[]string{"a\n", "b\n\n"}, false},
		{[]string{"a\nb\n", "c"}, false},
		{[]string{"\n\n", "c"}, false},
		{[]string{"a\n", "b\nc"}, false},
		{[]string{"a\r", "b"}, false},
	} {
		if got := Valid(c.l); got != c.want {
			t.Errorf("Valid(%q) = %v", c.l, got)
		}
	}
}

// L2: Bare and Whole, of any strings.
func TestBareAndWhole(t *testing.T) {
	for _, c := range []struct {
		line, bare string
		whole      bool
	}{
		{"", "", false},
		{"x", "x", false},
		{"x\n", "x", true},
		{"\n", "", true},
		{"\n\n", "\n", true},
		{"x\ny", "x\ny", false},
		{"x\ny\n", "x\ny", true},
		{"\nx", "\nx", false},
		{"x\r\n", "x\r", true},
		{"x\r", "x\r", false},
		{"x \n", "x ", true},
		{"\xff\n", "\xff", true},
		{"\x00", "\x00", false},
	} {
		if got := Bare(c.line); got != c.bare {
			t.Errorf("Bare(%q) = %q, not %q", c.line, got, c.bare)
		}
		if got := Whole(c.line); got != c.whole {
			t.Errorf("Whole(%q) = %v", c.line, got)
		}
	}
}

// L2: Count.
func TestCount(t *testing.T) {
	for s, want := range map[string]int{
		"": 0, "a": 1, "\n": 1, "a\n": 1, "a\nb": 2, "a\nb\n": 2, "\n\n": 2, "\na": 2, "\n\n\nx": 4, "a\rb": 1, "\x00": 1,
	} {
		if got := Count(s); got != want {
			t.Errorf("Count(%q) = %d, not %d", s, got, want)
		}
	}
	for _, s := range texts() {
		if got, want := Count(s), len(Split(s)); got != want {
			t.Errorf("Count(%q) = %d, but Split gives %d lines", s, got, want)
		}
	}
}

// L3: Place, at bytes that are there and at others.
func TestPlace(t *testing.T) {
	for _, c := range []struct {
		s                string
		offset, line, at int
		ok               bool
	}{
		{"ab\nc", 0, 1, 1, true},
		{"ab\nc", 1, 1, 2, true},
		{"ab\nc", 2, 1, 3, true},
		{"ab\nc", 3, 2, 1, true},
		{"ab\nc", 4, 0, 0, false},
		{"ab\nc", 5, 0, 0, false},
		{"ab\nc", -1, 0, 0, false},
		{"ab\nc", math.MaxInt, 0, 0, false},
		{"ab\nc", math.MinInt, 0, 0, false},
		{"", 0, 0, 0, false},
		{"", -1, 0, 0, false},
		{"", 1, 0, 0, false},
		{"\n", 0, 1, 1, true},
		{"\n", 1, 0, 0, false},
		{"\n\n", 1, 2, 1, true},
		{"a\n", 1, 1, 2, true},
		{"a\n", 2, 0, 0, false},
		{"\u00e4b", 2, 1, 3, true},
		{"a\tb", 2, 1, 3, true},
	} {
		line, at, ok := Place(c.s, c.offset)
		if line != c.line || at != c.at || ok != c.ok {
			t.Errorf("Place(%q, %d) = %d, %d, %v", c.s, c.offset, line, at, ok)
		}
	}
}

// L3: each byte of each line is found where Split has it.
func TestPlaceFindsEachByte(t *testing.T) {
	for _, s := range texts() {
		offset := 0
		for i, l := range Split(s) {
			for j := range len(l) {
				line, at, ok := Place(s, offset)
				if line != i+1 || at != j+1 || !ok {
					t.Fatalf("Place(%q, %d) = %d, %d, %v", s, offset, line, at, ok)
				}
				offset++
			}
		}
	}
}

// L4: from a text to its lines, and back.
func TestTextsThereAndBack(t *testing.T) {
	for _, s := range texts() {
		l := Split(s)
		if got := Join(l); got != s {
			t.Errorf("Join(Split(%q)) = %q", s, got)
		}
		if !Valid(l) {
			t.Errorf("Split(%q) = %q is not Valid", s, l)
		}
		want := 0
		for i := range len(s) {
			if s[i] == 10 || i == len(s)-1 {
				want++
			}
		}
		if got := Count(s); got != want {
			t.Errorf("Count(%q) = %d, not %d", s, got, want)
		}
	}
}

// L4: lists are Valid just where they come back from their text.
func TestListsThereAndBack(t *testing.T) {
	for _, l := range smallLists(smallTexts("a\n", 3), 3) {
		back := slices.Equal(Split(Join(l)), l)
		if Valid(l) != back {
			t.Errorf("Valid(%q) = %v, Split(Join(l)) is l: %v", l, Valid(l), back)
		}
	}
}

// L5: Expand's blanks and columns.
func TestExpand(t *testing.T) {
	for _, c := range []struct {
		s     string
		width int
		want  string
	}{
		{"", 8, ""},
		{"a\tb\n\t", 4, "a   b\n    "},
		{"plain\ntext", 8, "plain\ntext"},
		{"\t", 8, "        "},
		{"\t\t", 3, "      "},
		{"abc\tx", 4, "abc x"},
		{"abcd\tx", 4, "abcd    x"},
		{"abcde\tx", 4, "abcde   x"},
		{"a\tbc\td", 4, "a   bc  d"},
		{"ab\n\tc\n", 4, "ab\n    c\n"},
		{"a\n\n\tb", 2, "a\n\n  b"},
		{"\t\n\t", 2, "  \n  "},
		{"\u00e4\tx", 4, "\u00e4  x"},
		{"\r\tx", 4, "\r   x"},
		{"\x00\b\tx", 4, "\x00\b  x"},
		{"a\tb", 1, "a b"},
		{"\t\t", 1, "  "},
		{"\t", 255, strings.Repeat(" ", 255)},
		{"ab\tc", 255, "ab" + strings.Repeat(" ", 253) + "c"},
		{strings.Repeat("x", 254) + "\t", 255, strings.Repeat("x", 254) + " "},
		{strings.Repeat("x", 255) + "\t", 255, strings.Repeat("x", 255) + strings.Repeat(" ", 255)},
	} {
		got, err := Expand(c.s, c.width)
		if got != c.want || err != nil {
			t.Errorf("Expand(%q, %d) = %q, %v, not %q", c.s, c.width, got, err, c.want)
		}
	}
}

// columnByColumn expands by the rule's words: a blank, and more of them till the column is a multiple of the width.
func columnByColumn(s string, width int) string {
	var b []byte
	column := 0
	for i := range len(s) {
		switch s[i] {
		case 9:
			b = append(b, 32)
			column++
			for ; column%width != 0; column++ {
				b = append(b, 32)
			}
		case 10:
			b = append(b, 10)
			column = 0
		default:
			b = append(b, s[i])
			column++
		}
	}
	return string(b)
}

// L5 and L6: Expand of many texts at many widths.
func TestExpandOfManyTexts(t *testing.T) {
	for _, width := range []int{1, 2, 3, 4, 7, 8, 255} {
		for _, s := range texts() {
			got, err := Expand(s, width)
			if want := columnByColumn(s, width); got != want || err != nil {
				t.Fatalf("Expand(%q, %d) = %q, %v, not %q", s, width, got, err, want)
			}
			if strings.Contains(got, "\t") || Count(got) != Count(s) {
				t.Fatalf("Expand(%q, %d) = %q: a byte 9, or other lines", s, width, got)
			}
			again, err := Expand(got, width)
			if again != got || err != nil {
				t.Fatalf("Expand(%q, %d) = %q, %v: not itself", got, width, again, err)
			}
		}
	}
}

// fails tells of an Expand that does not answer this error and nothing else.
func fails(t *testing.T, what, s string, width int, want error) {
	t.Helper()
	if got, err := Expand(s, width); got != "" || !errors.Is(err, want) {
		t.Errorf("Expand of %s, width %d: %d bytes, %v, not %v", what, width, len(got), err, want)
	}
}

// L5: widths that can't be, whatever the text.
func TestExpandOfWrongWidths(t *testing.T) {
	tooLong := strings.Repeat("x", api.MaxBytes+1)
	for _, width := range []int{0, 256, -1, 257, math.MaxInt, math.MinInt} {
		fails(t, "nothing", "", width, api.ErrArg)
		fails(t, "a tabulator", "\t", width, api.ErrArg)
		fails(t, "a text too long", tooLong, width, api.ErrArg)
	}
}

// L5: texts and answers of MaxBytes bytes, and of one more.
func TestExpandAtTheLimit(t *testing.T) {
	most := strings.Repeat("x", api.MaxBytes)
	for _, c := range []struct {
		what, s string
		width   int
	}{
		{"a text of MaxBytes", most, 8},
		{"MaxBytes ends", strings.Repeat("\n", api.MaxBytes), 1},
		{"MaxBytes tabulators", strings.Repeat("\t", api.MaxBytes), 1},
		{"an answer of MaxBytes", strings.Repeat("\t", api.MaxBytes/8), 8},
		{"a tabulator that ends at MaxBytes", most[4:] + "\t", 4},
		{"a tabulator of one blank that fits", most[255:] + "\n" + strings.Repeat("x", 253) + "\t", 254},
	} {
		got, err := Expand(c.s, c.width)
		if got != columnByColumn(c.s, c.width) || len(got) != api.MaxBytes || err != nil {
			t.Errorf("Expand of %s: %d bytes, %v", c.what, len(got), err)
		}
	}
	fails(t, "a text of one more", most+"x", 8, api.ErrLong)
	fails(t, "tabulators of one more", strings.Repeat("\t", api.MaxBytes+1), 1, api.ErrLong)
	fails(t, "an answer of one more", strings.Repeat("\t", api.MaxBytes/8)+"x", 8, api.ErrLong)
	fails(t, "an answer of one more by its last tabulator", most[3:]+"\n\t", 3, api.ErrLong)
	fails(t, "MaxBytes tabulators", strings.Repeat("\t", api.MaxBytes), 255, api.ErrLong)
}

// L1 to L4 have no limit: they take more than MaxBytes bytes.
func TestTextsBeyondTheLimit(t *testing.T) {
	for _, s := range []string{
		strings.Repeat("x", api.MaxBytes+1),
		strings.Repeat("\n", api.MaxBytes+1),
		strings.Repeat("ab\n", api.MaxBytes) + "c",
	} {
		l := Split(s)
		if Join(l) != s || !Valid(l) || Count(s) != len(l) {
			t.Errorf("a text of %d bytes is not its %d lines", len(s), len(l))
		}
		line, at, ok := Place(s, len(s)-1)
		if line != len(l) || at != len(l[len(l)-1]) || !ok {
			t.Errorf("the last of %d bytes is at %d, %d, %v", len(s), line, at, ok)
		}
	}
}

// P1: no byte, width or offset makes a call panic.
func TestNothingPanics(t *testing.T) {
	for _, s := range texts() {
		for _, n := range []int{math.MinInt, -1, 0, 1, len(s) - 1, len(s), len(s) + 1, 255, 256, math.MaxInt} {
			line, at, ok := Place(s, n)
			if there := n >= 0 && n < len(s); ok != there || (line > 0) != there || (at > 0) != there {
				t.Fatalf("Place(%q, %d) = %d, %d, %v", s, n, line, at, ok)
			}
			_, err := Expand(s, n)
			if fits := n >= 1 && n <= 255; (err == nil) != fits {
				t.Fatalf("Expand(%q, %d): %v", s, n, err)
			}
		}
	}
}

// P2: an answer is new memory, and its spare room too.
func TestAnswersAreNew(t *testing.T) {
	s := "a\nb\nc"
	first, second := Split(s), Split(s)
	whole := first[:cap(first)]
	for i := range whole {
		whole[i] = "changed"
	}
	if want := []string{"a\n", "b\n", "c"}; !slices.Equal(second, want) || !slices.Equal(Split(s), want) {
		t.Errorf("a change to one answer shows in another: %q", second)
	}
}

// P2: arguments stay as they are, also behind their length.
func TestArgumentsStay(t *testing.T) {
	room := []string{"a\n", "b\n", "c", "spare", "room"}
	l, want := room[:3], slices.Clone(room)
	if Join(l) != "a\nb\nc" || !Valid(l) {
		t.Errorf("Join(%q) = %q, Valid %v", l, Join(l), Valid(l))
	}
	if !slices.Equal(room, want) {
		t.Errorf("an argument has become %q", room)
	}
}
