package scan

import (
	"math"
	"slices"
	"strings"
	"testing"
)

// isFirst fails where First does not answer what is wanted: a place, if its offset is not 0.
func isFirst(t *testing.T, a, b string, want Unlike, end int) {
	t.Helper()
	u, found, got := First(a, b)
	if u != want || found != (want.Offset > 0) || got != end {
		t.Errorf("First(%.100q, %.100q): %v, %v, %d, not %v, %d", a, b, u, found, got, want, end)
	}
}

// isAll fails where All does not answer what is wanted.
func isAll(t *testing.T, a, b string, most int, want ...Unlike) {
	t.Helper()
	if got := All(a, b, most); !slices.Equal(got, want) {
		t.Errorf("All(%.100q, %.100q, %d): %v, not %v", a, b, most, got, want)
	}
}

// isRuns fails where Runs does not answer what is wanted.
func isRuns(t *testing.T, a, b string, most int, want ...Span) {
	t.Helper()
	if got := Runs(a, b, most); !slices.Equal(got, want) {
		t.Errorf("Runs(%.100q, %.100q, %d): %v, not %v", a, b, most, got, want)
	}
}

// The chapter's examples.
func TestExamples(t *testing.T) {
	isFirst(t, "ab\ncd", "ab\nxd", Unlike{4, 2, 99, 120}, 0)
	isFirst(t, "ab", "abc", Unlike{}, 1)
	isAll(t, "abc", "xbz", -1, Unlike{1, 1, 97, 120}, Unlike{3, 1, 99, 122})
	isRuns(t, "abcd", "xycz", -1, Span{1, 2}, Span{4, 1})
	for c, want := range map[int]string{10: "^J", 129: "M-^A", 255: "M-^?", 200: "M-H"} {
		if got := Show(c); got != want {
			t.Errorf("Show(%d): %q, not %q", c, got, want)
		}
	}
}

// SC1: where there is no place, the zero Unlike and false; how the texts end is told all the same.
func TestFirstOfNone(t *testing.T) {
	long := strings.Repeat("one\ntwo\x00\xff", 1000)
	for _, c := range []struct {
		a, b string
		end  int
	}{
		{"", "", 0},
		{"", "a", 1},
		{"a", "", 2},
		{"", "\n", 1},
		{"\n", "", 2},
		{"", "\x00", 1},
		{"a", "a", 0},
		{"\n", "\n", 0},
		{"\x00", "\x00", 0},
		{"\xff", "\xff", 0},
		{"ab\ncd", "ab\ncd", 0},
		{"ab\n", "ab", 2},
		{"ab", "ab\n", 1},
		{"ab\n", "ab\ncd", 1},
		{"ab\ncd", "ab\n", 2},
		{"a", "a\x00", 1},
		{"a\x00", "a", 2},
		{long, long, 0},
		{long, long + "x", 1},
		{long + "\n", long, 2},
		{long, long + long, 1},
	} {
		isFirst(t, c.a, c.b, Unlike{}, c.end)
	}
}

// SC1: the first place, by its offset and its line in a, with both bytes; and how the texts end.
func TestFirst(t *testing.T) {
	for _, c := range []struct {
		a, b string
		want Unlike
		end  int
	}{
		// at the first byte, at the last one, at several
		{"a", "b", Unlike{1, 1, 97, 98}, 0},
		{"abc", "xbc", Unlike{1, 1, 97, 120}, 0},
		{"abc", "abx", Unlike{3, 1, 99, 120}, 0},
		{"abcde", "axcxx", Unlike{2, 1, 98, 120}, 0},
		{"abc", "xyz", Unlike{1, 1, 97, 120}, 0},
		// one of them is shorter
		{"axc", "abcd", Unlike{2, 1, 120, 98}, 1},
		{"abcd", "axc", Unlike{2, 1, 98, 120}, 2},
		{"x", "a\nb\n", Unlike{1, 1, 120, 97}, 1},
		{"a\nb\n", "x", Unlike{1, 1, 97, 120}, 2},
		{"ab", "axyz", Unlike{2, 1, 98, 120}, 1},
		{"axyz", "ab", Unlike{2, 1, 120, 98}, 2},
		// bytes 10 ahead of the place, in both
		{"a\nb", "a\nc", Unlike{3, 2, 98, 99}, 0},
		{"\n\n\na", "\n\n\nb", Unlike{4, 4, 97, 98}, 0},
		{"a\nb\nc\nd\n", "a\nb\nx\nd\n", Unlike{5, 3, 99, 120}, 0},
		// behind the place they do not count
		{"ab\n\n", "xb\n\n", Unlike{1, 1, 97, 120}, 0},
		// the byte 10 is itself the unlike one
		{"\n", "a", Unlike{1, 1, 10, 97}, 0},
		{"a", "\n", Unlike{1, 1, 97, 10}, 0},
		{"a\n", "ab", Unlike{2, 1, 10, 98}, 0},
		{"ab", "a\n", Unlike{2, 1, 98, 10}, 0},
		{"\n\na", "\nb\n", Unlike{2, 2, 10, 98}, 0},
		{"\nb\n", "\n\na", Unlike{2, 2, 98, 10}, 0},
		// the least byte and the greatest one, and the two byte for byte
		{"\x00", "\xff", Unlike{1, 1, 0, 255}, 0},
		{"\xff", "\x00", Unlike{1, 1, 255, 0}, 0},
		{"a\x00", "a\x01", Unlike{2, 1, 0, 1}, 0},
		{"\x7f", "\x80", Unlike{1, 1, 127, 128}, 0},
		{"é", "è", Unlike{2, 1, 169, 168}, 0},
		{"\u2028a", "\u2028b", Unlike{4, 1, 97, 98}, 0},
		{"\r\x0b\x0ca", "\r\x0b\x0cb", Unlike{4, 1, 97, 98}, 0},
		// letters and blanks are bytes as any
		{"a", "A", Unlike{1, 1, 97, 65}, 0},
		{" a", "a", Unlike{1, 1, 32, 97}, 2},
		{"\t", " ", Unlike{1, 1, 9, 32}, 0},
		{"a\r\n", "a\n", Unlike{2, 1, 13, 10}, 2},
	} {
		isFirst(t, c.a, c.b, c.want, c.end)
	}
}

// SC1: each byte beside each other one is told as the numbers 0 to 255; alike are only those that are the same.
func TestFirstOfEachByte(t *testing.T) {
	for x := range 256 {
		for y := range 256 {
			a, b := "\n"+string([]byte{byte(x)}), "\n"+string([]byte{byte(y)})
			want := Unlike{2, 2, x, y}
			if x == y {
				want = Unlike{}
			}
			isFirst(t, a, b, want, 0)
		}
	}
}

// SC1, P7: the offset is the least one, however far on, and the line that of a.
func TestFirstFarOn(t *testing.T) {
	row := strings.Repeat("seven\n\n", 1<<16)
	isFirst(t, row+"x", row+"y", Unlike{len(row) + 1, 1<<17 + 1, 'x', 'y'}, 0)
	isFirst(t, row+"x"+row, row+"y", Unlike{len(row) + 1, 1<<17 + 1, 'x', 'y'}, 2)
	isFirst(t, row+"x", row+"y"+row, Unlike{len(row) + 1, 1<<17 + 1, 'x', 'y'}, 1)
	isFirst(t, row+row, row+strings.ToUpper(row), Unlike{len(row) + 1, 1<<17 + 1, 's', 'S'}, 0)
}

// SC2: all places at which both have a byte, rising.
func TestAll(t *testing.T) {
	for _, c := range []struct {
		a, b string
		want []Unlike
	}{
		{"", "", nil},
		{"", "abc", nil},
		{"abc", "", nil},
		{"abc", "abc", nil},
		{"abc", "abcdef", nil},
		{"a\nb\n", "a\n", nil},
		{"a", "b", []Unlike{{1, 1, 97, 98}}},
		{"abc", "xyz", []Unlike{{1, 1, 97, 120}, {2, 1, 98, 121}, {3, 1, 99, 122}}},
		// texts of unlike length: what one alone has is none
		{"abc", "xbzxx", []Unlike{{1, 1, 97, 120}, {3, 1, 99, 122}}},
		{"xbzxx", "abc", []Unlike{{1, 1, 120, 97}, {3, 1, 122, 99}}},
		{"a", "xyz", []Unlike{{1, 1, 97, 120}}},
		{"xyz", "a", []Unlike{{1, 1, 120, 97}}},
		// several lines: of both, of a alone, of b alone
		{"a\nb\nc", "x\ny\nz", []Unlike{{1, 1, 97, 120}, {3, 2, 98, 121}, {5, 3, 99, 122}}},
		{"a\nb\nc", "axbxd", []Unlike{{2, 1, 10, 120}, {4, 2, 10, 120}, {5, 3, 99, 100}}},
		{"axbxc", "a\nb\nd", []Unlike{{2, 1, 120, 10}, {4, 1, 120, 10}, {5, 1, 99, 100}}},
		{"\n\n\n", "xxx", []Unlike{{1, 1, 10, 120}, {2, 2, 10, 120}, {3, 3, 10, 120}}},
		{"xxx", "\n\n\n", []Unlike{{1, 1, 120, 10}, {2, 1, 120, 10}, {3, 1, 120, 10}}},
		{"\na\n", "a\na", []Unlike{{1, 1, 10, 97}, {2, 2, 97, 10}, {3, 2, 10, 97}}},
		{"\x00\xff", "\xff\x00", []Unlike{{1, 1, 0, 255}, {2, 1, 255, 0}}},
	} {
		for _, below := range []int{-1, -2, -3, math.MinInt} {
			isAll(t, c.a, c.b, below, c.want...)
		}
		for most := range len(c.want) + 3 {
			isAll(t, c.a, c.b, most, c.want[:min(most, len(c.want))]...)
		}
		isAll(t, c.a, c.b, math.MaxInt, c.want...)
	}
}

// SC5: the places in runs, each as long as it is, whatever the lines are.
func TestRuns(t *testing.T) {
	for _, c := range []struct {
		a, b string
		want []Span
	}{
		{"", "", nil},
		{"", "abc", nil},
		{"abc", "", nil},
		{"abc", "abc", nil},
		{"abc", "abcdef", nil},
		{"abcdef", "abc", nil},
		// one run, of one place or of many; at the beginning, in the middle, at the end, of the whole
		{"a", "b", []Span{{1, 1}}},
		{"abc", "xbc", []Span{{1, 1}}},
		{"abc", "axc", []Span{{2, 1}}},
		{"abc", "abx", []Span{{3, 1}}},
		{"abcdef", "xyzdef", []Span{{1, 3}}},
		{"abcdef", "abxyef", []Span{{3, 2}}},
		{"abcdef", "abcxyz", []Span{{4, 3}}},
		{"abcdef", "uvwxyz", []Span{{1, 6}}},
		// several
		{"abc", "xbz", []Span{{1, 1}, {3, 1}}},
		{"abcdefgh", "xxcdxxxh", []Span{{1, 2}, {5, 3}}},
		{"abcdefgh", "axcxexgx", []Span{{2, 1}, {4, 1}, {6, 1}, {8, 1}}},
		{"abcdefgh", "xxcxxfxx", []Span{{1, 2}, {4, 2}, {7, 2}}},
		// a run ends where one of the texts does
		{"ab", "axyz", []Span{{2, 1}}},
		{"axyz", "ab", []Span{{2, 1}}},
		{"abcd", "xbyzzzz", []Span{{1, 1}, {3, 2}}},
		// bytes 10 neither begin a run nor end one
		{"a\nb\nc", "xyzuv", []Span{{1, 5}}},
		{"a\nb", "x\ny", []Span{{1, 1}, {3, 1}}},
		{"xyzuv", "a\nb\nc", []Span{{1, 5}}},
		{"\x00\xff", "\xff\x00", []Span{{1, 2}}},
	} {
		for _, below := range []int{-1, -2, -3, math.MinInt} {
			isRuns(t, c.a, c.b, below, c.want...)
		}
		for most := range len(c.want) + 3 {
			isRuns(t, c.a, c.b, most, c.want[:min(most, len(c.want))]...)
		}
		isRuns(t, c.a, c.b, math.MaxInt, c.want...)
	}
}
