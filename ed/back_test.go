package ed

import (
	"fmt"
	"selvage/api"
	"selvage/edits"
	"selvage/intern"
	"selvage/lines"
	"selvage/myers"
	"strings"
	"testing"
)

// isThere fails where a script from a to b, printed and run, does not make b of a, or where the printers do not tell as many lines that come.
func isThere(t *testing.T, s []api.Change, a, b []string) {
	t.Helper()
	what := fmt.Sprintf("%v %.200q %.200q", s, a, b)
	text, err := Print(s, a, b)
	isErr(t, what, err, nil)
	isAnswer(t, "Run of "+what, run(text, a), answers{l: b})
	wrote, err := Rcs(s, a, b)
	isErr(t, what, err, nil)
	isAnswer(t, "Patch of "+what, patch(wrote, a), answers{l: b})
	forward, err := Forward(s, a, b)
	isErr(t, what, err, nil)
	changes := joined(s)
	_, come := edits.Cost(s)
	if p, f, w := cameByEd(text), cameForward(forward, changes), cameByRcs(wrote, changes); p != come || f != come || w != come {
		t.Errorf("%s: Print tells %d lines, Forward %d, Rcs %d, not %d", what, p, f, w, come)
	}
}

// cameByEd is how many lines come by the commands of Print.
func cameByEd(text string) int {
	n, within := 0, false
	for _, line := range lines.Split(text) {
		switch {
		case within && line == ".\n":
			within = false
		case within:
			n++
		case strings.HasSuffix(line, "a\n") || strings.HasSuffix(line, "c\n"):
			within = true
		}
	}
	return n
}

// cameForward is how many lines Forward tells beside its commands and the ends of text, of which each change has one at most.
func cameForward(text string, changes []api.Change) int {
	n := lines.Count(text)
	for _, c := range changes {
		n--
		if c.M > 0 {
			n--
		}
	}
	return n
}

// cameByRcs is how many lines Rcs tells beside its commands.
func cameByRcs(text string, changes []api.Change) int {
	n := lines.Count(text)
	for _, c := range changes {
		if c.N > 0 {
			n--
		}
		if c.M > 0 {
			n--
		}
	}
	return n
}

// fitting is a list of lines that a script leads to from a: what stays is a's, what comes is told by a call for each.
func fitting(s []api.Change, a []string, come func(i int) string) []string {
	var b []string
	at := 0
	for _, c := range s {
		b = append(b, a[at:c.A]...)
		for i := range c.M {
			b = append(b, come(c.B+i))
		}
		at = c.A + c.N
	}
	return append(b, a[at:]...)
}

// ED3, ED8: all small scripts, those that are not normal too, with lines that come that are dots, all of them or some.
func TestSmallScriptsAreDone(t *testing.T) {
	olds := []string{"1\n", ".\n", "3\n", "\n"}
	fresh := []func(i int) string{
		func(int) string { return "x\n" },
		func(int) string { return ".\n" },
		func(i int) string { return []string{".\n", "x\n"}[i%2] },
		func(i int) string { return []string{"..\n", ".\n", "\n", "s/.//\n"}[i%4] },
	}
	n := 0
	for old := range 5 {
		for new := range 5 {
			for _, s := range allScripts(old, new) {
				for _, come := range fresh {
					a := olds[:old]
					isThere(t, s, a, fitting(s, a, come))
					n++
				}
			}
		}
	}
	if n < 10000 {
		t.Error("only", n, "scripts")
	}
}

// ED3, ED8: all pairs of small texts, by each script that leads from one to the other.
func TestSmallTextsAreDone(t *testing.T) {
	texts := smallTexts([]string{"1\n", ".\n", "\n"}, 3)
	n := 0
	for _, x := range texts {
		for _, y := range texts {
			a, b := lines.Split(x), lines.Split(y)
			p, q, err := intern.Ids(a, b, 0)
			isErr(t, "Ids", err, nil)
			for _, s := range allScripts(len(a), len(b)) {
				if edits.Fits(s, p, q) == nil {
					isThere(t, s, a, b)
					n++
				}
			}
		}
	}
	if n < 10000 {
		t.Error("only", n, "scripts")
	}
}

// someLines are whole lines that look like chance, from few that there are.
func someLines(next *steps, most int) []string {
	var l []string
	for range next.below(most) {
		l = append(l, []string{".\n", "x\n", "y\n", "\n", "..\n", "1d\n"}[next.below(6)])
	}
	return l
}

// P7, ED3, ED8: what diff finds, told for the editor and run, makes the new text of the old one.
func TestDiffsAreDone(t *testing.T) {
	next := steps(9)
	for range 3000 {
		a, b := someLines(&next, 40), someLines(&next, 40)
		p, q, err := intern.Ids(a, b, 0)
		isErr(t, "Ids", err, nil)
		isThere(t, myers.Diff(p, q), a, b)
	}
	for _, c := range [][2]string{{"", ""}, {"", "a\n"}, {"a\n", ""}, {"a\n", "a\n"}, {".\n", ""}, {"", ".\n.\n"}, {"a\n", "b\n.\n"}} {
		a, b := lines.Split(c[0]), lines.Split(c[1])
		p, q, _ := intern.Ids(a, b, 0)
		isThere(t, myers.Diff(p, q), a, b)
	}
}

// ED3, ED8: lines of each byte but 10.
func TestLinesOfAllBytesAreDone(t *testing.T) {
	for c := range 256 {
		if c == 10 {
			continue
		}
		one := string([]byte{byte(c)})
		l := []string{one + "\n", "." + one + "\n", one + ".\n", one + one + "\n"}
		isThere(t, script([][4]int{{0, 0, 0, 4}}), nil, l)
		isThere(t, script([][4]int{{0, 4, 0, 4}}), l, l)
		isThere(t, script([][4]int{{0, 1, 0, 0}, {2, 0, 1, 1}}), l, []string{l[1], one + "x\n", l[2], l[3]})
	}
}

// ED4: Run of the empty text is the lines.
func TestRunOfNothing(t *testing.T) {
	next := steps(11)
	for range 1000 {
		l := someLines(&next, 20)
		isAnswer(t, "nothing", run("", l), answers{l: l})
	}
	isAnswer(t, "nothing, of lines that are too long", run("", sized(api.MaxBytes+9, 3)), answers{l: sized(api.MaxBytes+9, 3)})
}

// inTwo fails where Run of two texts of commands, one behind the other, is not Run of the second one on what the first one leaves. It tells whether the first one leaves lines, and the second one too.
func inTwo(t *testing.T, first, second string, l []string) (bool, bool) {
	t.Helper()
	whole := run(first+second, l)
	half := run(first, l)
	if half.err != nil {
		return false, false
	}
	want := run(second, half.l)
	if want.err != nil {
		want.line += lines.Count(first)
	}
	isAnswer(t, fmt.Sprintf("%q and %q with %q", first, second, l), whole, want)
	return true, want.err == nil
}

// ED4: all small texts whose addresses are numbers, one behind the other.
func TestRunOfTwoTexts(t *testing.T) {
	commands := []string{"0a\nx\n.\n", "1a\n.\n", "2a\ny\nz\n.\n", "0i\n.\n", "1i\nx\n.\n", "3i\ny\n.\n", "1c\nx\n.\n", "1,2c\n.\n", "2c\ny\nz\n.\n", "1d\n", "2d\n", "1,2d\n", "1s/.//\n", "2s/.//\n"}
	firsts, both := 0, 0
	for _, first := range smallTexts(commands, 2) {
		for _, second := range smallTexts(commands, 2) {
			for _, l := range [][]string{nil, {"1\n"}, {"ab\n", "\n", ".\n"}} {
				one, two := inTwo(t, first, second, l)
				if one {
					firsts++
				}
				if two {
					both++
				}
			}
		}
	}
	if firsts < 30000 || both < 10000 {
		t.Error("only", firsts, both)
	}
}

// ED4: a whole script cut at each of its commands, as Print tells them of scripts without dots.
func TestPrintedTextsInTwo(t *testing.T) {
	next := steps(13)
	for range 2000 {
		var a, b []string
		for _, line := range someLines(&next, 20) {
			a = append(a, "x"+line)
		}
		for _, line := range someLines(&next, 20) {
			b = append(b, "x"+line)
		}
		p, q, _ := intern.Ids(a, b, 0)
		s := myers.Diff(p, q)
		text, err := Print(s, a, b)
		isErr(t, "Print", err, nil)
		// What the last changes tell stands first.
		for i := range s {
			behind := joined(s)[min(i, len(joined(s))):]
			first := ""
			for _, c := range behind {
				p, _, _ := toldChange(c, b[c.B:c.B+c.M])
				first = p + first
			}
			second, ok := strings.CutPrefix(text, first)
			if !ok {
				t.Fatalf("%q does not begin with %q", text, first)
			}
			if _, two := inTwo(t, first, second, a); !two {
				t.Errorf("%q and %q", first, second)
			}
		}
	}
}
