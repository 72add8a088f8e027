package hunks

import (
	"fmt"
	"math"
	"selvage/api"
	"slices"
	"strings"
	"testing"
)

// plainHead is Head as H3 says it, step by step.
func plainHead(a []string, at int) string {
	for i := len(a) - 1; i >= 0; i-- {
		if i >= at || !strings.ContainsAny(a[i][:min(1, len(a[i]))], "abcdefghijklmnopqrstuvwxyzABCDEFGHIJKLMNOPQRSTUVWXYZ_$") {
			continue
		}
		var told []byte
		for _, c := range []byte(strings.TrimSuffix(a[i], "\n")) {
			if c == 9 {
				c = 32
			}
			if c < 32 || c == 127 {
				break
			}
			told = append(told, c)
		}
		text := string(told)
		if len(text) > 40 {
			text = text[:40]
		}
		for strings.HasSuffix(text, " ") {
			text = text[:len(text)-1]
		}
		return text
	}
	return ""
}

// isHeadOf fails where the heading of a place is not the one that is wanted.
func isHeadOf(t *testing.T, a []string, at int, want string) {
	t.Helper()
	if got := Head(a, at); got != want {
		t.Errorf("%q at %d: %q, not %q", a, at, got, want)
	}
	if plain := plainHead(a, at); plain != want {
		t.Errorf("%q at %d: by the words %q, not %q", a, at, plain, want)
	}
}

// H3: the chapter's example, at all places, those that are none too.
func TestHeadAtPlaces(t *testing.T) {
	a := []string{"int f()\n", "{\n", " x\n"}
	isHeadOf(t, a, 3, "int f()")
	for at := range 7 {
		want := "int f()"
		if at == 0 {
			want = ""
		}
		isHeadOf(t, a, at, want)
	}
	for _, at := range []int{math.MinInt, math.MinInt + 1, -api.MaxNumber, -2, -1, 0} {
		isHeadOf(t, a, at, "")
		isHeadOf(t, nil, at, "")
	}
	for _, at := range []int{api.MaxNumber, math.MaxInt - 1, math.MaxInt} {
		isHeadOf(t, a, at, "int f()")
		isHeadOf(t, nil, at, "")
	}
	// the last one of several, and none
	b := []string{"a\n", " b\n", "c\n", "1\n", "d\n"}
	for at, want := range []string{"", "a", "a", "c", "c", "d", "d"} {
		isHeadOf(t, b, at, want)
	}
	isHeadOf(t, []string{" a\n", "{\n", "\n", "\tb\n"}, 4, "")
}

// H3: by which bytes a line may begin.
func TestHeadBeginnings(t *testing.T) {
	for c := range 256 {
		line := string([]byte{byte(c)}) + "x"
		isLetter := c >= 'a' && c <= 'z' || c >= 'A' && c <= 'Z' || c == '_' || c == '$'
		want := "ahead"
		if isLetter {
			want = line
		}
		isHeadOf(t, []string{"ahead\n", line + "\n"}, 2, want)
		isHeadOf(t, []string{"ahead\n", line}, 2, want)
	}
	isHeadOf(t, []string{"\u00e9\n", "\u0430\n"}, 2, "")
	isHeadOf(t, []string{"ahead\n", ""}, 2, "ahead")
	isHeadOf(t, []string{"ahead\n", "\n"}, 2, "ahead")
	for _, line := range []string{"a", "a\n", "_\n", "$\n", "Z"} {
		isHeadOf(t, []string{line}, 1, strings.TrimSuffix(line, "\n"))
	}
}

// H3: tabulators, other bytes that end it, blanks at its end.
func TestHeadBytes(t *testing.T) {
	for c := range 256 {
		text := "f" + string([]byte{byte(c)}) + "x"
		want := text
		switch {
		case c == 9:
			want = "f x"
		case c < 32 || c == 127:
			want = "f"
		}
		isHeadOf(t, []string{text + "\n"}, 1, want)
		isHeadOf(t, []string{text}, 1, want)
	}
	for _, c := range [][2]string{
		{"a\tb\t\tc\n", "a b  c"},
		{"a\t\n", "a"},
		{"a  \t  \n", "a"},
		{"a   ", "a"},
		{"a b  \x00 c\n", "a b"},
		{"a\t\r\n", "a"},
		{"a b\r\n", "a b"},
		{"a\n\n", "a"},
		{"a\nb\n", "a"},
		{"a \x7f\n", "a"},
		{"a\x80\xff\u00a0\n", "a\x80\xff\u00a0"},
		{"a\u2003\n", "a\u2003"},
	} {
		isHeadOf(t, []string{c[0]}, 1, c[1])
	}
}

// H3: lines of 40 bytes, of fewer and of more.
func TestHeadLength(t *testing.T) {
	for n := 1; n <= 90; n++ {
		text := strings.Repeat("x", n)
		isHeadOf(t, []string{text + "\n"}, 1, text[:min(n, 40)])
		isHeadOf(t, []string{text}, 1, text[:min(n, 40)])
		isHeadOf(t, []string{text + " \x01\n"}, 1, text[:min(n, 40)])
		isHeadOf(t, []string{text + "\tyz\n"}, 1, strings.TrimRight((text + " yz")[:min(n+3, 40)], " "))
	}
	// blanks up to the limit and beyond it: what is cut off is not seen
	isHeadOf(t, []string{"x" + strings.Repeat(" ", 39) + "y\n"}, 1, "x")
	isHeadOf(t, []string{"x" + strings.Repeat("\t", 38) + "y\n"}, 1, "x"+strings.Repeat(" ", 38)+"y")
	// bytes are counted, not letters
	isHeadOf(t, []string{"x" + strings.Repeat("\u00e9", 30)}, 1, "x"+strings.Repeat("\u00e9", 19)+"\xc3")
	long := strings.Repeat("ab ", api.MaxBytes/3)
	isHeadOf(t, []string{long}, 1, long[:40])
}

// H3: all short lists of some lines, at all places.
func TestHeadOfAllSmall(t *testing.T) {
	names := []string{"", "\n", "a\n", " b\n", "$\t\n", "_x\x1f"}
	lists := [][]string{nil}
	for range 4 {
		for _, l := range lists {
			for at := -1; at <= len(l)+1; at++ {
				isHeadOf(t, l, at, plainHead(l, at))
			}
		}
		var longer [][]string
		for _, l := range lists {
			for _, name := range names {
				longer = append(longer, append(slices.Clone(l), name))
			}
		}
		lists = longer
	}
}

// H3: hunks with their headings, and all else as it was.
func TestNamed(t *testing.T) {
	a := []string{"f\n", "{\n", "}\n", "g\n", "{\n", "}\n"}
	rows := []string{"-x\n", " y\n", "?z"}
	for n := -1; n <= 2; n++ {
		for at := -2; at <= 9; at++ {
			h := headed(hunk(at, n, 3, 4, rows...), "what it was")
			place := at
			if n > 0 {
				place--
			}
			got := Named([]api.Hunk{h}, a)
			areHunks(t, fmt.Sprint(at, n), got, nil, []api.Hunk{headed(h, plainHead(a, place))})
		}
	}
	// B and M are not asked
	h := hunk(2, 1, 6, 0, "-x\n")
	areHunks(t, "places apart", Named([]api.Hunk{h}, a), nil, []api.Hunk{headed(h, "f")})
	areHunks(t, "no headings", Named([]api.Hunk{headed(h, "x")}, a[1:3]), nil, []api.Hunk{h})
	areHunks(t, "no lines", Named([]api.Hunk{headed(h, "x")}, nil), nil, []api.Hunk{h})
	areHunks(t, "no hunks", Named(nil, a), nil, nil)
	// the edges of ints: the least one, less 1, is no line
	for _, c := range []struct {
		at, n int
		want  string
	}{
		{math.MinInt, 1, ""}, {math.MinInt, 0, ""}, {math.MinInt, math.MinInt, ""}, {math.MinInt + 1, 1, ""}, {-1, 1, ""}, {0, 1, ""}, {0, math.MaxInt, ""},
		{math.MaxInt, 1, "g"}, {math.MaxInt, 0, "g"}, {math.MaxInt, math.MinInt, "g"}, {1, 1, ""}, {1, 0, "f"}, {1, -1, "f"}, {4, 1, "f"}, {5, 1, "g"}, {4, 0, "g"},
	} {
		h := api.Hunk{A: c.at, N: c.n}
		areHunks(t, fmt.Sprint(c), Named([]api.Hunk{h}, a), nil, []api.Hunk{headed(h, c.want)})
	}
}

// H3: several hunks, in any order, each by itself.
func TestNamedOfSeveral(t *testing.T) {
	next := steps(5)
	for range 200 {
		var a []string
		for range next.below(30) {
			a = append(a, []string{"x\n", " \n", "{\n", "", fmt.Sprint("line ", len(a), "\n")}[next.below(5)])
		}
		var l, want []api.Hunk
		for range next.below(20) {
			h := hunk(next.below(34)-1, next.below(2), 1, 1, "-a\n", "+b\n")
			place, _ := places(h)
			l = append(l, h)
			want = append(want, headed(h, Head(a, place)))
		}
		areHunks(t, fmt.Sprint(a), Named(l, a), nil, want)
	}
}
