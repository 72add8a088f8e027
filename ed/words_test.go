package ed

import (
	"fmt"
	"regexp"
	"selvage/api"
	"selvage/lines"
	"slices"
	"strconv"
	"strings"
	"testing"
)

// The forms of commands, with their ends.
var (
	commandForm = regexp.MustCompile(`\A(?:(0|[1-9][0-9]*|\.|\$)(?:,(0|[1-9][0-9]*|\.|\$))?)?([aicdwq]|s/\.//)\n\z`)
	rcsForm     = regexp.MustCompile(`\A([da])(0|[1-9][0-9]*) ([1-9][0-9]*)\n\z`)
)

// numberOf is what digits tell; -1, if it is too great.
func numberOf(digits string) int {
	if len(digits) > 10 {
		return -1
	}
	n, err := strconv.Atoi(digits)
	if err != nil || n > api.MaxNumber {
		return -1
	}
	return n
}

// handedIn is what is wrong with what is handed in, by the words; false, if nothing is.
func handedIn(text string, l []string) (answers, bool) {
	if !lines.Valid(l) {
		return wrong(0, api.ErrForm), true
	}
	for _, line := range l {
		if !strings.HasSuffix(line, "\n") {
			return wrong(0, api.ErrForm), true
		}
	}
	return wrong(0, api.ErrLong), len(text) > api.MaxBytes
}

// desk are lines that commands are done with, by the words: a list, and the current line.
type desk struct {
	l       []string
	current int
}

// line is the line that an address means; -1, if the number is too great.
func (d desk) line(address string) int {
	switch address {
	case ".":
		return d.current
	case "$":
		return len(d.l)
	}
	return numberOf(address)
}

// lineOrLast is the current line, or the last one, if that is beyond it.
func (d desk) lineOrLast(line int) int {
	if line > len(d.l) {
		return len(d.l)
	}
	return line
}

// done is the desk behind a command, one row of the chapter's table after the other.
func (d desk) done(name string, first, last int, come []string) desk {
	n := len(come)
	switch name {
	case "a":
		return desk{slices.Concat(d.l[:first], come, d.l[first:]), first + n}
	case "i":
		if first == 0 {
			first = 1
		}
		return desk{slices.Concat(d.l[:first-1], come, d.l[first-1:]), first - 1 + n}
	case "c":
		d.l = slices.Concat(d.l[:first-1], come, d.l[last:])
		if n > 0 {
			return desk{d.l, first - 1 + n}
		}
		return desk{d.l, d.lineOrLast(first)}
	case "d":
		d.l = slices.Concat(d.l[:first-1], d.l[last:])
		return desk{d.l, d.lineOrLast(first)}
	case "s/.//":
		return desk{slices.Concat(d.l[:first-1], []string{d.l[first-1][1:]}, d.l[first:]), first}
	}
	return d
}

// runByWords does commands by ED2's words: all lines of the text are cut first.
func runByWords(text string, l []string) answers {
	if bad, is := handedIn(text, l); is {
		return bad
	}
	takes := map[string]int{"a": 1, "i": 1, "c": 2, "d": 2, "s/.//": 1, "w": 0, "q": 0}
	all := lines.Split(text)
	d := desk{l, len(l)}
	for i := 0; i < len(all); {
		at := i + 1
		form := commandForm.FindStringSubmatch(all[i])
		if form == nil {
			return wrong(at, api.ErrForm)
		}
		i++
		name, first, last := form[3], d.current, d.current
		given := 0
		if form[1] != "" {
			first, given = d.line(form[1]), 1
			last = first
		}
		if form[2] != "" {
			last, given = d.line(form[2]), 2
		}
		if given > takes[name] || first < 0 || last < 0 {
			return wrong(at, api.ErrForm)
		}
		if first > len(d.l) || last > len(d.l) || last < first || first == 0 && strings.Contains("c d s/.//", name) {
			return wrong(at, api.ErrPlace)
		}
		var come []string
		if name == "a" || name == "i" || name == "c" {
			n := slices.Index(all[i:], ".\n")
			if n < 0 {
				return wrong(at, api.ErrDot)
			}
			come = all[i : i+n]
			i += n + 1
		}
		strips := name == "s/.//" && d.l[first-1] == "\n"
		d = d.done(name, first, last, come)
		if len(strings.Join(d.l, "")) > api.MaxBytes {
			return wrong(at, api.ErrLong)
		}
		if strips {
			return wrong(at, api.ErrForm)
		}
		if name == "q" {
			break
		}
	}
	return answers{l: d.l}
}

// patchByWords does commands by ED7's words: what becomes of each old line is written down, and put together at the end.
func patchByWords(text string, l []string) answers {
	if bad, is := handedIn(text, l); is {
		return bad
	}
	gone, used := make([]bool, len(l)+1), make([]bool, len(l)+1)
	behind := make([][]string, len(l)+1)
	together := func() []string {
		made := slices.Clone(behind[0])
		for i, line := range l {
			if !gone[i+1] {
				made = append(made, line)
			}
			made = append(made, behind[i+1]...)
		}
		return made
	}
	use := func(line int) {
		for i := 1; i <= line; i++ {
			used[i] = true
		}
	}
	all := lines.Split(text)
	for i := 0; i < len(all); {
		at := i + 1
		form := rcsForm.FindStringSubmatch(all[i])
		if form == nil {
			return wrong(at, api.ErrForm)
		}
		i++
		line, n := numberOf(form[2]), numberOf(form[3])
		if line < 0 || n < 0 {
			return wrong(at, api.ErrForm)
		}
		if form[1] == "d" {
			if line == 0 || line+n-1 > len(l) || slices.Contains(used[line:line+n], true) {
				return wrong(at, api.ErrPlace)
			}
			for k := range n {
				gone[line+k] = true
			}
			use(line + n - 1)
			continue
		}
		if line > len(l) || slices.Contains(used[line+1:], true) {
			return wrong(at, api.ErrPlace)
		}
		if n > len(all)-i || !strings.HasSuffix(all[i+n-1], "\n") {
			return wrong(at, api.ErrDot)
		}
		behind[line] = append(behind[line], all[i:i+n]...)
		i += n
		use(line)
		if len(strings.Join(together(), "")) > api.MaxBytes {
			return wrong(at, api.ErrLong)
		}
	}
	return answers{l: together()}
}

// counted counts answers by their error, so that one sees that each is met.
type counted map[error]int

// met fails where an error, or none, was met fewer times than it should.
func (c counted) met(t *testing.T, least int, errs ...error) {
	t.Helper()
	for _, err := range errs {
		if c[err] < least {
			t.Errorf("%v was met %d times", err, c[err])
		}
	}
}

// runsByWords fails where Run is not what the words say.
func (c counted) runsByWords(t *testing.T, text string, l []string) {
	t.Helper()
	want := runByWords(text, l)
	isAnswer(t, fmt.Sprintf("Run of %q with %q", text, l), run(text, l), want)
	c[want.err]++
}

// patchesByWords fails where Patch is not what the words say.
func (c counted) patchesByWords(t *testing.T, text string, l []string) {
	t.Helper()
	want := patchByWords(text, l)
	isAnswer(t, fmt.Sprintf("Patch of %q with %q", text, l), patch(text, l), want)
	c[want.err]++
}

// ED2: all small texts of commands.
func TestRunOfAllSmall(t *testing.T) {
	olds := [][]string{nil, {"1\n"}, {"\n", "ab\n"}, {"1\n", ".\n", "3\n"}}
	c := counted{}
	pieces := []string{"a\n", "0a\n", "1a\n", "i\n", "2i\n", "c\n", "1,2c\n", "d\n", "1d\n", "2,$d\n", "s/.//\n", "1s/.//\n", "w\n", "q\n", ".\n", "x\n", "\n"}
	for _, text := range smallTexts(pieces, 4) {
		for _, l := range olds {
			c.runsByWords(t, text, l)
		}
		c.runsByWords(t, strings.TrimSuffix(text, "\n"), olds[3])
	}
	c.met(t, 10000, nil, api.ErrForm, api.ErrPlace, api.ErrDot)
}

// ED2: all small commands, with lines of text behind them and without, behind a command that moves the current line.
func TestRunOfAllSmallCommands(t *testing.T) {
	olds := [][]string{nil, {"\n"}, {"1\n", "2\n", "3\n"}}
	c := counted{}
	check := func(line string) {
		for _, l := range olds {
			c.runsByWords(t, line+"\n", l)
			c.runsByWords(t, line+"\nx\ny\n.\n", l)
			c.runsByWords(t, "0a\n.\n"+line+"\n"+mark, l)
			c.runsByWords(t, "1a\n.\n"+line+"\n.\n"+mark, l)
		}
	}
	for _, line := range smallTexts([]string{"0", "1", "2", "4", ",", ".", "$", "a", "i", "c", "d", "s/.//", "w", "q", " ", "/"}, 3) {
		check(line)
	}
	for _, ahead := range smallTexts([]string{"0", "1", "3", ",", ".", "$"}, 4) {
		for _, name := range []string{"a", "i", "c", "d", "s/.//", "w", "q"} {
			check(ahead + name)
		}
	}
	c.met(t, 100, nil, api.ErrForm, api.ErrPlace, api.ErrDot)
}

// ED7: all small texts of commands.
func TestPatchOfAllSmall(t *testing.T) {
	olds := [][]string{nil, {"1\n"}, {"1\n", "2\n"}, {"1\n", "2\n", "3\n"}}
	c := counted{}
	pieces := []string{"d1 1\n", "d2 1\n", "d3 1\n", "d1 2\n", "d0 1\n", "d2 2\n", "a0 1\n", "a1 1\n", "a2 2\n", "a3 1\n", "a1 2\n", "x\n", ".\n"}
	for _, text := range smallTexts(pieces, 4) {
		for _, l := range olds {
			c.patchesByWords(t, text, l)
		}
		c.patchesByWords(t, strings.TrimSuffix(text, "\n"), olds[3])
	}
	c.met(t, 3000, nil, api.ErrForm, api.ErrPlace, api.ErrDot)
}

// ED7: all small commands, with lines behind them and without.
func TestPatchOfAllSmallCommands(t *testing.T) {
	olds := [][]string{nil, {"1\n"}, {"1\n", "2\n", "3\n"}}
	c := counted{}
	for _, line := range smallTexts([]string{"d", "a", "0", "1", "2", "3", " ", "$", "."}, 4) {
		for _, l := range olds {
			c.patchesByWords(t, line+"\n", l)
			c.patchesByWords(t, line+"\nx\ny\n", l)
			c.patchesByWords(t, "a1 1\nx\n"+line+"\nx\n", l)
		}
	}
	c.met(t, 10, nil, api.ErrForm, api.ErrPlace, api.ErrDot)
}

// someCommands is a text of commands that look like chance, most of which can be done with about so many lines.
func someCommands(next *steps, most int) string {
	var b strings.Builder
	address := func() string {
		if next.below(8) == 0 {
			return []string{".", "$", "0"}[next.below(3)]
		}
		return strconv.Itoa(next.below(most) + 1)
	}
	for range next.below(30) {
		name := []string{"a", "i", "c", "d", "s/.//", "w", "a", "i"}[next.below(8)]
		if name != "w" && next.below(4) > 0 {
			first := next.below(most) + 1
			switch {
			case (name == "c" || name == "d") && next.below(2) > 0:
				fmt.Fprintf(&b, "%d,%d", first, first+next.below(3))
			default:
				b.WriteString(address())
			}
		}
		b.WriteString(name + "\n")
		if strings.Contains("aic", name) {
			for range next.below(4) {
				b.WriteString([]string{"x\n", "yy\n", "..\n", "zzz\n", "1d\n"}[next.below(5)])
			}
			b.WriteString(".\n")
		}
	}
	return b.String()
}

// ED2: many texts of many commands, with more lines.
func TestRunOfManyTexts(t *testing.T) {
	next := steps(3)
	c := counted{}
	for range 30000 {
		n := next.below(12)
		text := someCommands(&next, max(n, 1))
		var l []string
		for i := range n {
			l = append(l, fmt.Sprintf("line %d\n", i))
		}
		c.runsByWords(t, text, l)
		if len(text) > 0 {
			// A byte less, or another one.
			at := next.below(len(text))
			c.runsByWords(t, text[:at]+text[at+1:], l)
			c.runsByWords(t, text[:at]+string("01,.$\n x"[next.below(8)])+text[at+1:], l)
		}
	}
	c.met(t, 1000, nil, api.ErrForm, api.ErrPlace, api.ErrDot)
}

// ED7: many texts of many commands, with more lines.
func TestPatchOfManyTexts(t *testing.T) {
	next := steps(4)
	c := counted{}
	for range 30000 {
		n := next.below(20)
		var l []string
		for i := range n {
			l = append(l, fmt.Sprintf("line %d\n", i))
		}
		var b strings.Builder
		line := 0
		for line <= n && next.below(8) > 0 {
			line += next.below(3)
			count := next.below(3) + 1
			if next.below(2) > 0 {
				fmt.Fprintf(&b, "d%d %d\n", line, count)
				line += count - next.below(2)
				continue
			}
			fmt.Fprintf(&b, "a%d %d\n%s", line, count, strings.Repeat("x\n", count))
		}
		text := b.String()
		c.patchesByWords(t, text, l)
		if len(text) > 0 {
			at := next.below(len(text))
			c.patchesByWords(t, text[:at]+text[at+1:], l)
			c.patchesByWords(t, text[:at]+string("01 da\nx2"[next.below(8)])+text[at+1:], l)
		}
	}
	c.met(t, 1000, nil, api.ErrForm, api.ErrPlace, api.ErrDot)
}
