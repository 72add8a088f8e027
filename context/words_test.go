package context

import (
	"regexp"
	"selvage/api"
	"selvage/hunks"
	"selvage/lines"
	"selvage/quote"
	"selvage/unified"
	"slices"
	"strconv"
	"strings"
	"testing"
)

// The forms of a hunk's first line, of those ahead of its parts, and of two runs that belong together (the marks of both, a slash between).
var (
	firstForm = regexp.MustCompile(`(?s)\A\*{15}( .*)?\z`)
	oldForm   = regexp.MustCompile(`\A\*\*\* ([0-9]+)(,[0-9]+)? \*\*\*\*\z`)
	freshForm = regexp.MustCompile(`\A--- ([0-9]+)(,[0-9]+)? ----\z`)
	pairForm  = regexp.MustCompile(`\A(-*/|/\+*|!+/!+)\z`)
)

// numbered is what a number of the form tells; -1, if it is too great.
func numbered(text string) int {
	text = strings.TrimLeft(strings.TrimPrefix(text, ","), "0")
	if len(text) > 10 {
		return -1
	}
	n, _ := strconv.Atoi("0" + text)
	if n > api.MaxNumber {
		return -1
	}
	return n
}

// ranged is what a line ahead of a part tells: its numbers, one or two; none, if it can't be.
func ranged(form *regexp.Regexp, line string) []int {
	found := form.FindStringSubmatch(line)
	if found == nil {
		return nil
	}
	numbers := []int{numbered(found[1])}
	if found[2] != "" {
		numbers = append(numbers, numbered(found[2]))
	}
	for _, n := range numbers {
		if n < numbers[0] || n < 0 {
			return nil
		}
	}
	return numbers
}

// sideOf are the marks of a part, one byte each, and its lines.
type sideOf struct {
	marks string
	lines []string
}

// rowsFrom are the rows that stand from a line on, at most so many, and the line behind them.
func rowsFrom(all []string, i int, marks string, most int) (sideOf, int) {
	var s sideOf
	for ; i < len(all); i++ {
		line := all[i]
		if line[0] == '\\' && len(s.lines) > 0 && all[i-1][0] != '\\' {
			s.lines[len(s.lines)-1] = strings.TrimSuffix(s.lines[len(s.lines)-1], "\n")
			continue
		}
		if len(s.lines) == most || len(line) < 3 || !strings.Contains(marks, line[:1]) || line[1] != ' ' {
			break
		}
		s.marks += line[:1]
		s.lines = append(s.lines, line[2:])
	}
	return s, i
}

// blanks are the rows of a part that are marked with a blank.
func (s sideOf) blanks() sideOf {
	var b sideOf
	for i, line := range s.lines {
		if s.marks[i] == ' ' {
			b.marks += " "
			b.lines = append(b.lines, line)
		}
	}
	return b
}

// joined are the rows of both parts by the words of CX2, 7; false, if something is wrong.
func joined(old, fresh sideOf) ([]api.Row, bool) {
	if len(old.lines)+len(fresh.lines) == 0 {
		return nil, false
	}
	if len(old.lines) == 0 {
		old = fresh.blanks()
	}
	if len(fresh.lines) == 0 {
		fresh = old.blanks()
	}
	if !slices.Equal(old.blanks().lines, fresh.blanks().lines) {
		return nil, false
	}
	var rows []api.Row
	comes := strings.Split(fresh.marks, " ")
	for i, gone := range strings.Split(old.marks, " ") {
		come := comes[i]
		if !pairForm.MatchString(gone + "/" + come) {
			return nil, false
		}
		if i > 0 {
			rows = append(rows, api.Row{Kind: api.RowBoth, Text: old.lines[0]})
			old.lines, fresh.lines = old.lines[1:], fresh.lines[1:]
		}
		for range gone {
			rows = append(rows, api.Row{Kind: api.RowOld, Text: old.lines[0]})
			old.lines = old.lines[1:]
		}
		for range come {
			rows = append(rows, api.Row{Kind: api.RowNew, Text: fresh.lines[0]})
			fresh.lines = fresh.lines[1:]
		}
	}
	return rows, true
}

// hunkFrom reads a hunk from a line on by the words of CX2, 3 to 8; the line behind it, or the line of a fault, from 1 on.
func hunkFrom(all []string, first int, ahead []api.Hunk) (api.Hunk, int, error) {
	at := func(i int) string {
		if i >= len(all) {
			return ""
		}
		return strings.TrimSuffix(all[i], "\n")
	}
	i := first + 1
	olds := ranged(oldForm, at(i))
	if olds == nil {
		return api.Hunk{}, i + 1, api.ErrHunk
	}
	old, i := rowsFrom(all, i+1, " -!", len(all))
	news := ranged(freshForm, at(i))
	if news == nil {
		return api.Hunk{}, i + 1, api.ErrHunk
	}
	fresh, i := rowsFrom(all, i+1, " +!", news[len(news)-1]-news[0]+1)
	rows, ok := joined(old, fresh)
	if !ok {
		return api.Hunk{}, first + 1, api.ErrHunk
	}
	h := api.Hunk{A: olds[0], B: news[0], Head: strings.TrimPrefix(firstForm.FindStringSubmatch(at(first))[1], " "), Rows: rows}
	h.N, h.M = counts(rows)
	told := func(numbers []int, n int) bool {
		if len(numbers) == 1 {
			return n == 0 || n == 1
		}
		return n == numbers[1]-numbers[0]+1
	}
	if !told(olds, h.N) || !told(news, h.M) {
		return api.Hunk{}, first + 1, api.ErrCount
	}
	if hunks.Valid(h) != nil {
		return api.Hunk{}, first + 1, api.ErrHunk
	}
	if _, err := unified.Print(named("a"), named("b"), append(ahead[:len(ahead):len(ahead)], h)); err != nil {
		return api.Hunk{}, first + 1, api.ErrOrder
	}
	return h, i, nil
}

// byWords reads a text by CX2's words: all lines are cut first, and each hunk's lines are told apart ahead of being put together.
func byWords(text string) answer {
	if len(text) > api.MaxBytes {
		return wrong(0, api.ErrLong)
	}
	all := lines.Split(text)
	ended := text == "" || strings.HasSuffix(text, "\n")
	if !ended {
		all[len(all)-1] += "\n"
	}
	var names [2]api.Name
	for i, mark := range []string{"*** ", "--- "} {
		if i >= len(all) || !strings.HasPrefix(all[i], mark) {
			return wrong(i+1, api.ErrHead)
		}
		path, left, err := quote.Unquote(strings.TrimSuffix(all[i][4:], "\n"))
		if err != nil || left != "" && left[0] != 9 {
			return wrong(i+1, api.ErrHead)
		}
		names[i] = api.Name{Path: path, Stamp: strings.TrimPrefix(left, "\t")}
	}
	var l []api.Hunk
	i := 2
	for i < len(all) && firstForm.MatchString(strings.TrimSuffix(all[i], "\n")) {
		h, next, err := hunkFrom(all, i, l)
		if err != nil {
			return wrong(next, err)
		}
		l = append(l, h)
		i = next
	}
	if len(l) == 0 {
		return wrong(i+1, api.ErrHunk)
	}
	left := strings.Join(all[i:], "")
	if !ended {
		left = strings.TrimSuffix(left, "\n")
	}
	return answer{old: names[0], fresh: names[1], l: l, left: left}
}

// asByWords fails where Parse of a text is not what the words say; it tells whether there is no error.
func asByWords(t *testing.T, text string) bool {
	t.Helper()
	got, want := parse(text), byWords(text)
	if !got.same(want) {
		t.Errorf("Parse of %q: %v, not %v", text, got, want)
	}
	return want.err == nil
}

// CX2: all small texts behind a header.
func TestParseOfAllSmall(t *testing.T) {
	fine := 0
	check := func(text string) {
		if asByWords(t, header+text) {
			fine++
		}
		// The last line without its end.
		asByWords(t, strings.TrimSuffix(header+text, "\n"))
	}
	for _, text := range smallTexts([]string{fifteen + "\n", "*** 1 ****\n", "--- 1 ----\n", "  c\n", "- a\n", "+ b\n", "! d\n", "\\\n", "x\n"}, 4) {
		check(text)
		check(fifteen + "\n*** 1 ****\n" + text)
		check(small + text)
	}
	for _, text := range smallTexts([]string{parts("1", "! a\n", "1", "! b\n"), parts("2", "", "2", "+ b\n"), parts("3", "- a\n", "3", ""), "\\\n", "! b\n", "  b\n", "+ b\n", "x\n"}, 4) {
		check(text)
	}
	if fine < 1000 {
		t.Error("only", fine, "texts can be read")
	}
}

// CX2: all small parts, and some ranges.
func TestParseOfAllSmallParts(t *testing.T) {
	fine := 0
	olds := smallTexts([]string{"  c\n", "- a\n", "! d\n", "\\\n"}, 4)
	news := smallTexts([]string{"  c\n", "+ b\n", "! d\n", "\\\n"}, 4)
	for _, old := range olds {
		for i, fresh := range news {
			ranges := [][2]string{{"1", "1"}, {"1,2", "1,2"}, {"1,3", "2,3"}, {"2", "1,4"}, {"1,2", "1,3"}, {"0", "1,3"}, {"3,6", "2"}, {"1,3", "1,3"}}
			for _, c := range ranges[i%2*4 : i%2*4+4] {
				if asByWords(t, header+parts(c[0], old, c[1], fresh)) {
					fine++
				}
			}
		}
	}
	for _, old := range smallTexts([]string{"  c\n", "  d\n", "- a\n", "+ a\n", " \n"}, 3) {
		for _, fresh := range smallTexts([]string{"  c\n", "  d\n", "- a\n", "+ a\n", "  d"}, 3) {
			if asByWords(t, header+parts("1,2", old, "1,3", fresh)) {
				fine++
			}
		}
	}
	if fine < 1000 {
		t.Error("only", fine, "texts can be read")
	}
}

// CX2: all small first lines, and all small lines ahead of a part.
func TestParseOfAllSmallPlaces(t *testing.T) {
	fine := 0
	for _, text := range smallTexts([]string{"0", "1", "2", ",", " ", "+", "-", "*", "x", "\t"}, 4) {
		for _, c := range [][2]string{
			{fifteen, "\n*** 1 ****\n! a\n--- 1 ----\n! b\n"},
			{fifteen + "\n*** ", " ****\n! a\n--- 1 ----\n! b\n"},
			{fifteen + "\n*** 1", "\n! a\n--- 1 ----\n! b\n"},
			{fifteen + "\n*** 1 ****\n! a\n--- ", " ----\n! b\n"},
			{fifteen + "\n*** 1 ****\n! a\n--- 1", "\n! b\n"},
			{fifteen + "\n*** 1 ****\n! a\n", "--- 1 ----\n! b\n"},
			{fifteen + "\n*** 1 ****\n! a\n--- 1 ----\n", "! b\n"},
		} {
			if asByWords(t, header+c[0]+text+c[1]) {
				fine++
			}
		}
	}
	if fine < 100 {
		t.Error("only", fine, "texts can be read")
	}
}

// CX2: all small names in headers.
func TestParseOfAllSmallHeaders(t *testing.T) {
	fine := 0
	for _, text := range smallTexts([]string{"a", "\"", "\\", "\t", " ", "n", "0", "\n", "--- ", "*** "}, 4) {
		for _, c := range [][2]string{{"*** ", "\n--- b\n" + small}, {"*** a\n--- ", "\n" + small}, {"*** \"", "\"\n--- b\n" + small}, {"", header + small}, {"*** a\n", "--- b\n" + small}} {
			if asByWords(t, c[0]+text+c[1]) {
				fine++
			}
		}
	}
	if fine < 100 {
		t.Error("only", fine, "texts can be read")
	}
}

// CX2: a diff's text, with each byte taken out, doubled, and made another one, and with each line taken out, doubled, and exchanged; each beginning of it, too.
func TestParseOfAllBesides(t *testing.T) {
	text := "*** a\ts\n--- \"b c\"\tt\n" + fifteen + " f\n*** 1,3 ****\n  x\n! y\n  \n--- 1,4 ----\n  x\n! z\n! w\n  \n" +
		parts("10,12", "- a\n  c\n- b\n\\ No\n", "11", "") +
		parts("13", "", "12,13", "+ d\n  e\n") +
		parts("20,21", "! g\n  h\n\\ No\n", "20,21", "! i\n  h\n\\ No\n") + "left\n" + small
	if !asByWords(t, text) {
		t.Fatal("the text itself")
	}
	for i := range len(text) {
		asByWords(t, text[:i])
		asByWords(t, text[i:])
		asByWords(t, text[:i]+text[i+1:])
		for _, c := range []byte("\n\\ +-!*,0129a\"\t\x00\xff") {
			asByWords(t, text[:i]+string([]byte{c})+text[i:])
			asByWords(t, text[:i]+string([]byte{c})+text[i+1:])
		}
	}
	all := lines.Split(text)
	for i := range all {
		asByWords(t, lines.Join(all[:i])+lines.Join(all[i+1:]))
		for j := range all {
			asByWords(t, lines.Join(all[:i])+all[j]+lines.Join(all[i:]))
			other := append([]string(nil), all...)
			other[i], other[j] = other[j], other[i]
			asByWords(t, lines.Join(other))
		}
	}
}

// CX2: texts put together of pieces that look like chance.
func TestParseOfManyTexts(t *testing.T) {
	pieces := []string{"  c\n", "  c\n", "  d\n", "- a\n", "! a\n", "! a\n", "+ b\n", "\\ x\n", "! \n"}
	ranges := []string{"0", "1", "2", "3", "1,2", "2,3", "3,5", "4,5", "6,9", "7", "9,9", "12"}
	next := steps(11)
	fine := 0
	some := func() string {
		var b strings.Builder
		for range next.below(5) {
			b.WriteString(pieces[next.below(len(pieces))])
		}
		return b.String()
	}
	for range 200000 {
		var b strings.Builder
		b.WriteString(header)
		for range 1 + next.below(3) {
			b.WriteString(parts(ranges[next.below(len(ranges))], some(), ranges[next.below(len(ranges))], some()))
		}
		if asByWords(t, b.String()) {
			fine++
		}
	}
	if fine < 300 {
		t.Error("only", fine, "texts can be read")
	}
}
