package unified

import (
	"regexp"
	"selvage/api"
	"selvage/hunks"
	"selvage/lines"
	"selvage/quote"
	"strconv"
	"strings"
	"testing"
)

// place is the form of a hunk's first line.
var place = regexp.MustCompile(`(?s)\A@@ -([0-9]+)(,[0-9]+)? \+([0-9]+)(,[0-9]+)? @@( .*)?\z`)

// numbered is what a number of the form tells; 1 where it is left out; -1, if it is too great.
func numbered(text string) int {
	if text == "" {
		return 1
	}
	text = strings.TrimLeft(strings.TrimPrefix(text, ","), "0")
	if len(text) > 10 {
		return -1
	}
	n, _ := strconv.Atoi("0" + text)
	if n > api.MaxNumber {
		return -1
	}
	return n
}

// byWords reads a text by U2's words: all lines are cut first, and each hunk's lines are told apart ahead of being counted.
func byWords(text string) answer {
	if len(text) > api.MaxBytes {
		return wrong(0, api.ErrLong)
	}
	all := lines.Split(text)
	at := func(i int) string { // the line i, from 0 on, without its end
		return strings.TrimSuffix(all[i], "\n")
	}
	var names [2]api.Name
	for i, mark := range []string{"--- ", "+++ "} {
		if i >= len(all) || !strings.HasPrefix(all[i], mark) {
			return wrong(i+1, api.ErrHead)
		}
		path, left, err := quote.Unquote(at(i)[4:])
		if err != nil || left != "" && left[0] != 9 {
			return wrong(i+1, api.ErrHead)
		}
		names[i] = api.Name{Path: path, Stamp: strings.TrimPrefix(left, "\t")}
	}
	var l []api.Hunk
	i := 2
	for i < len(all) && strings.HasPrefix(all[i], "@@ -") {
		first := i
		found := place.FindStringSubmatch(at(i))
		if found == nil {
			return wrong(i+1, api.ErrHunk)
		}
		h := api.Hunk{A: numbered(found[1]), N: numbered(found[2]), B: numbered(found[3]), M: numbered(found[4])}
		if min(h.A, h.N, h.B, h.M) < 0 {
			return wrong(i+1, api.ErrHunk)
		}
		h.Head = strings.TrimPrefix(found[5], " ")
		n, m := 0, 0
		for i++; n < h.N || m < h.M; i++ {
			if i == len(all) {
				return wrong(i+1, api.ErrCount)
			}
			line := at(i)
			if line == "" {
				line = " "
			}
			switch line[0] {
			case ' ':
				n, m = n+1, m+1
			case '-':
				n++
			case '+':
				m++
			case '\\':
				if i == first+1 || all[i-1][0] == '\\' {
					return wrong(i+1, api.ErrCount)
				}
				cut := &h.Rows[len(h.Rows)-1]
				cut.Text = strings.TrimSuffix(cut.Text, "\n")
				continue
			default:
				return wrong(i+1, api.ErrCount)
			}
			if n > h.N || m > h.M {
				return wrong(i+1, api.ErrCount)
			}
			h.Rows = append(h.Rows, row(line+"\n"))
		}
		if i < len(all) && all[i][0] == '\\' && i > first+1 {
			cut := &h.Rows[len(h.Rows)-1]
			cut.Text = strings.TrimSuffix(cut.Text, "\n")
			i++
		}
		if i < len(all) && all[i][0] == '\\' {
			return wrong(i+1, api.ErrCount)
		}
		if hunks.Valid(h) != nil {
			return wrong(first+1, api.ErrHunk)
		}
		l = append(l, h)
		if orderOf(l) != nil {
			return wrong(first+1, api.ErrOrder)
		}
	}
	if len(l) == 0 {
		return wrong(i+1, api.ErrHunk)
	}
	return answer{old: names[0], fresh: names[1], l: l, left: strings.Join(all[i:], "")}
}

// asByWords fails where Parse of a text is not what the words say; it tells whether there is no error.
func asByWords(t *testing.T, text string) bool {
	t.Helper()
	got, want := parse(text), byWords(text)
	if !got.same(want) {
		t.Errorf("Parse of %q: %v, not %v", text, got, want)
	}
	return want.err == nil
}

// U2: all small texts behind a header.
func TestParseOfAllSmall(t *testing.T) {
	fine := 0
	check := func(text string) {
		if asByWords(t, header+text) {
			fine++
		}
		// The last line without its end.
		asByWords(t, strings.TrimSuffix(header+text, "\n"))
	}
	for _, text := range smallTexts([]string{"@@ -1 +1 @@\n", "@@ -2,2 +2 @@\n", "@@ -3,0 +3 @@\n", "-a\n", "+b\n", " c\n", "\n", "\\\n", "x\n"}, 5) {
		check(text)
	}
	for _, rows := range smallTexts([]string{"-a\n", "+b\n", " c\n", "\n", "\\\n", "+\n", "@@ -9 +9 @@\n"}, 5) {
		for _, place := range []string{"@@ -1 +1 @@\n", "@@ -1,2 +1,2 @@\n", "@@ -1,3 +1,1 @@\n", "@@ -0,0 +1,3 @@\n", "@@ -1,2 +1,0 @@ f\n"} {
			check(place + rows)
		}
	}
	if fine < 1000 {
		t.Error("only", fine, "texts can be read")
	}
}

// U2: all small first lines.
func TestParseOfAllSmallPlaces(t *testing.T) {
	fine := 0
	for _, text := range smallTexts([]string{"0", "1", "2", ",", " ", "+", "-", "@@", "@", "x"}, 5) {
		for _, c := range [][2]string{{"@@ -", " @@\n-a\n+b\n"}, {"@@ -1 ", "\n-a\n+b\n"}, {"@@ -", " +1 @@\n-a\n+b\n"}, {"@@ -1 +", " @@\n-a\n+b\n"}} {
			if asByWords(t, header+c[0]+text+c[1]) {
				fine++
			}
		}
	}
	if fine < 100 {
		t.Error("only", fine, "texts can be read")
	}
}

// U2: all small names in headers.
func TestParseOfAllSmallHeaders(t *testing.T) {
	fine := 0
	for _, text := range smallTexts([]string{"a", "\"", "\\", "\t", " ", "n", "0", "\n", "+++ ", "--- "}, 4) {
		for _, c := range [][2]string{{"--- ", "\n+++ b\n" + small}, {"--- a\n+++ ", "\n" + small}, {"--- \"", "\"\n+++ b\n" + small}, {"", header + small}, {"--- a\n", "+++ b\n" + small}} {
			if asByWords(t, c[0]+text+c[1]) {
				fine++
			}
		}
	}
	if fine < 100 {
		t.Error("only", fine, "texts can be read")
	}
}

// U2: a diff's text, with each byte taken out, doubled, and made another one, and with each line taken out, doubled, and exchanged; each beginning of it, too.
func TestParseOfAllBesides(t *testing.T) {
	const text = "--- a\ts\n+++ \"b c\"\tt\n@@ -1,3 +1,3 @@ f\n x\n-y\n\n+z\n@@ -10,2 +11,1 @@\n-a\n-b\n\\ No\n+c\n\\ No\n@@ -12,0 +13 @@\n+d\nleft\n@@ -20 +20 @@\n"
	if !asByWords(t, text) {
		t.Fatal("the text itself")
	}
	for i := range len(text) {
		asByWords(t, text[:i])
		asByWords(t, text[i:])
		asByWords(t, text[:i]+text[i+1:])
		for _, c := range []byte("\n\\ +-@,0129a\"\t\x00\xff") {
			asByWords(t, text[:i]+string([]byte{c})+text[i:])
			asByWords(t, text[:i]+string([]byte{c})+text[i+1:])
		}
	}
	all := lines.Split(text)
	for i := range all {
		asByWords(t, lines.Join(all[:i])+lines.Join(all[i+1:]))
		for j := range all {
			asByWords(t, lines.Join(all[:i])+all[j]+lines.Join(all[i:]))
			other := append([]string(nil), all...)
			other[i], other[j] = other[j], other[i]
			asByWords(t, lines.Join(other))
		}
	}
}

// U2: texts put together of lines that look like chance.
func TestParseOfManyTexts(t *testing.T) {
	pieces := []string{"@@ -1 +1 @@\n", "@@ -2 +2 @@ f\n", "@@ -3,2 +3 @@\n", "@@ -5,0 +4,2 @@\n", "@@ -6,2 +6,2 @@\n", "@@ -9 +9,0 @@\n", "-a\n", "+b\n", "-a\n", "+b\n", " c\n", "\n", "\\ x\n", "-\n", "x\n", "@@ -1\n"}
	next := steps(11)
	fine := 0
	for range 300000 {
		var b strings.Builder
		b.WriteString(header)
		for range next.below(14) {
			b.WriteString(pieces[next.below(len(pieces))])
		}
		if asByWords(t, b.String()) {
			fine++
		}
	}
	if fine < 300 {
		t.Error("only", fine, "texts can be read")
	}
}
