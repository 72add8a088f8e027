package normal

import (
	"regexp"
	"selvage/api"
	"selvage/hunks"
	"selvage/lines"
	"slices"
	"strconv"
	"strings"
	"testing"
)

// commandForm is the form of a command: the old side, the letter, the new side.
var commandForm = regexp.MustCompile(`\A([0-9]+)(,[0-9]+)?([acd])([0-9]+)(,[0-9]+)?\z`)

// numberOf is what a number of the form tells; what is left out, if there is none; -1, if it is too great.
func numberOf(text string, without int) int {
	if text == "" {
		return without
	}
	text = strings.TrimLeft(strings.TrimPrefix(text, ","), "0")
	if len(text) > 10 {
		return -1
	}
	n, _ := strconv.Atoi("0" + text)
	if n > api.MaxNumber {
		return -1
	}
	return n
}

// commandByWords is what a command tells; false, if it can't be.
func commandByWords(line string) (api.Hunk, bool) {
	found := commandForm.FindStringSubmatch(line)
	if found == nil {
		return api.Hunk{}, false
	}
	p, r := numberOf(found[1], 0), numberOf(found[4], 0)
	q, s := numberOf(found[2], p), numberOf(found[5], r)
	isLines := func(first, last int) bool { return first >= 1 && first <= last }
	fine := p >= 0 && q >= 0 && r >= 0 && s >= 0
	switch found[3] {
	case "a":
		return api.Hunk{A: p, B: r, M: s - r + 1}, fine && found[2] == "" && isLines(r, s)
	case "d":
		return api.Hunk{A: p, N: q - p + 1, B: r}, fine && found[5] == "" && isLines(p, q)
	}
	return api.Hunk{A: p, N: q - p + 1, B: r, M: s - r + 1}, fine && isLines(p, q) && isLines(r, s)
}

// byWords reads a text by N2's words: all lines are cut first, and what must stand behind a command is written down ahead of being looked for.
func byWords(text string) answer {
	if len(text) > api.MaxBytes {
		return wrong(0, api.ErrLong)
	}
	all := lines.Split(text)
	at := func(i int) string { // the line i, from 0 on, without its end
		return strings.TrimSuffix(all[i], "\n")
	}
	isCut := func(i int) bool { return i < len(all) && all[i][0] == '\\' }
	var l []api.Hunk
	i := 0
	for i < len(all) && (isCut(i) || strings.Contains("0123456789", all[i][:1])) {
		command := i
		h, ok := commandByWords(at(i))
		if !ok {
			return wrong(i+1, api.ErrLine)
		}
		// No more than there are lines: a command may say far more.
		wanted := strings.Repeat("<", min(h.N, len(all)))
		if h.N > 0 && h.M > 0 {
			wanted += "-"
		}
		wanted += strings.Repeat(">", min(h.M, len(all)))
		i++
		for _, mark := range wanted {
			switch {
			case i == len(all):
				return wrong(i+1, api.ErrLine)
			case mark == '-' && at(i) == "---":
				i++
				continue
			case mark == '-' || !strings.HasPrefix(at(i), string(mark)+" "):
				return wrong(i+1, api.ErrLine)
			}
			kind := api.RowOld
			if mark == '>' {
				kind = api.RowNew
			}
			line := at(i)[2:] + "\n"
			i++
			if isCut(i) {
				line = strings.TrimSuffix(line, "\n")
				i++
			}
			h.Rows = append(h.Rows, api.Row{Kind: kind, Text: line})
		}
		if hunks.Valid(h) != nil {
			return wrong(command+1, api.ErrLine)
		}
		l = append(l, h)
		if !isInOrder(l[max(len(l)-2, 0):]) {
			return wrong(command+1, api.ErrOrder)
		}
	}
	return answer{l: l, left: strings.Join(all[i:], "")}
}

// asByWords fails where Parse of a text is not what the words say; it tells whether there are hunks, and no error.
func asByWords(t *testing.T, text string) bool {
	t.Helper()
	got, want := parse(text), byWords(text)
	if !got.same(want) {
		t.Errorf("Parse of %q: %v, not %v", text, got, want)
	}
	return len(want.l) > 0
}

// N2: all small texts.
func TestParseOfAllSmall(t *testing.T) {
	fine := 0
	check := func(text string) {
		if asByWords(t, text) {
			fine++
		}
		// The last line without its end.
		asByWords(t, strings.TrimSuffix(text, "\n"))
	}
	for _, text := range smallTexts([]string{"1c1\n", "2,3d2\n", "3a3\n", "< a\n", "> b\n", "---\n", "\\\n", "x\n"}, 6) {
		check(text)
	}
	for _, rows := range smallTexts([]string{"< a\n", "> b\n", "---\n", "\\\n", "< \n", "> \n", "9d9\n"}, 6) {
		for _, command := range []string{"1c1\n", "1,2c1\n", "1c1,2\n", "1,2d0\n", "0a1,2\n"} {
			check(command + rows)
		}
	}
	if fine < 1000 {
		t.Error("only", fine, "texts can be read")
	}
}

// N2: all small commands, behind which each number of lines stands that they may tell.
func TestParseOfAllSmallCommands(t *testing.T) {
	fine := 0
	for _, text := range smallTexts([]string{"0", "1", "2", ",", "a", "c", "d", " ", "x"}, 5) {
		for _, c := range [][2]string{{text, ""}, {"1", text}, {text, "1"}, {text, "1,2"}, {"1,2", text}} {
			command := c[0] + c[1]
			asByWords(t, command)
			h, ok := commandByWords(command)
			if !ok {
				asByWords(t, command+"\n< a\n---\n> b\n")
				continue
			}
			rows, _ := rowsOf(h.N, h.M)
			if asByWords(t, command+"\n"+rows) {
				fine++
			}
		}
	}
	if fine < 1000 {
		t.Error("only", fine, "commands can be read")
	}
}

// N2: a diff's text, with each byte taken out, doubled, and made another one, and with each line taken out, doubled, and exchanged; each beginning of it, too.
func TestParseOfAllBesides(t *testing.T) {
	const text = "1d0\n< a\n3,4c2,4\n< b\n< c\n---\n> d\n> \n> e\n10a11,12\n> f\n> g\n12c14\n< h\n\\ No\n---\n> i\n\\ No\nleft\n20d19\n"
	if !asByWords(t, text) {
		t.Fatal("the text itself")
	}
	for i := range len(text) {
		asByWords(t, text[:i])
		asByWords(t, text[i:])
		asByWords(t, text[:i]+text[i+1:])
		for _, c := range []byte("\n\\ <>-,0129acdx\x00\xff") {
			asByWords(t, text[:i]+string([]byte{c})+text[i:])
			asByWords(t, text[:i]+string([]byte{c})+text[i+1:])
		}
	}
	all := lines.Split(text)
	for i := range all {
		asByWords(t, lines.Join(all[:i])+lines.Join(all[i+1:]))
		for j := range all {
			asByWords(t, lines.Join(all[:i])+all[j]+lines.Join(all[i:]))
			other := slices.Clone(all)
			other[i], other[j] = other[j], other[i]
			asByWords(t, lines.Join(other))
		}
	}
}

// N2: texts put together of lines that look like chance.
func TestParseOfManyTexts(t *testing.T) {
	pieces := []string{"1c1\n", "2c2\n", "3,4c3\n", "5a4,5\n", "6,7c6,7\n", "9d9\n", "< a\n", "> b\n", "< a\n", "> b\n", "---\n", "---\n", "\\ x\n", "< \n", "x\n", "1d\n", "1d0\n< a\n", "0a1\n> b\n", "2c2\n< c\n---\n> d\n"}
	next := steps(13)
	fine := 0
	for range 300000 {
		var b strings.Builder
		for range next.below(14) {
			b.WriteString(pieces[next.below(len(pieces))])
		}
		if asByWords(t, b.String()) {
			fine++
		}
	}
	if fine < 1000 {
		t.Error("only", fine, "texts can be read")
	}
}
