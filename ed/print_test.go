package ed

import (
	"fmt"
	"math"
	"selvage/api"
	"selvage/lines"
	"slices"
	"strings"
	"testing"
)

// ED1, ED5, ED6: what is printed of changes of each kind, at each place.
func TestPrinters(t *testing.T) {
	for _, c := range []struct {
		name               string
		s                  [][4]int
		a, b               string
		print, forward, rc string
	}{
		{"nothing of nothing", nil, "", "", "", "", ""},
		{"no change", nil, "1\n2\n", "1\n2\n", "", "", ""},
		// old lines alone
		{"the first line goes", [][4]int{{0, 1, 0, 0}}, "1\n2\n3\n", "2\n3\n", "1d\n", "d1\n", "d1 1\n"},
		{"the first two go", [][4]int{{0, 2, 0, 0}}, "1\n2\n3\n", "3\n", "1,2d\n", "d1 2\n", "d1 2\n"},
		{"one in the middle goes", [][4]int{{1, 1, 1, 0}}, "1\n2\n3\n", "1\n3\n", "2d\n", "d2\n", "d2 1\n"},
		{"three in the middle go", [][4]int{{1, 3, 1, 0}}, "1\n2\n3\n4\n5\n", "1\n5\n", "2,4d\n", "d2 4\n", "d2 3\n"},
		{"the last one goes", [][4]int{{2, 1, 2, 0}}, "1\n2\n3\n", "1\n2\n", "3d\n", "d3\n", "d3 1\n"},
		{"the last two go", [][4]int{{1, 2, 1, 0}}, "1\n2\n3\n", "1\n", "2,3d\n", "d2 3\n", "d2 2\n"},
		{"all go", [][4]int{{0, 2, 0, 0}}, "1\n2\n", "", "1,2d\n", "d1 2\n", "d1 2\n"},
		{"lines that are a dot go", [][4]int{{0, 2, 0, 0}}, ".\n.\n", "", "1,2d\n", "d1 2\n", "d1 2\n"},
		// new lines alone
		{"one comes at the beginning", [][4]int{{0, 0, 0, 1}}, "2\n", "1\n2\n", "0a\n1\n.\n", "a0\n1\n.\n", "a0 1\n1\n"},
		{"two come at the beginning", [][4]int{{0, 0, 0, 2}}, "3\n", "1\n2\n3\n", "0a\n1\n2\n.\n", "a0\n1\n2\n.\n", "a0 2\n1\n2\n"},
		{"one comes in the middle", [][4]int{{1, 0, 1, 1}}, "1\n3\n", "1\n2\n3\n", "1a\n2\n.\n", "a1\n2\n.\n", "a1 1\n2\n"},
		{"three come in the middle", [][4]int{{1, 0, 1, 3}}, "1\n5\n", "1\n2\n3\n4\n5\n", "1a\n2\n3\n4\n.\n", "a1\n2\n3\n4\n.\n", "a1 3\n2\n3\n4\n"},
		{"one comes at the end", [][4]int{{2, 0, 2, 1}}, "1\n2\n", "1\n2\n3\n", "2a\n3\n.\n", "a2\n3\n.\n", "a2 1\n3\n"},
		{"two come at the end", [][4]int{{1, 0, 1, 2}}, "1\n", "1\n2\n3\n", "1a\n2\n3\n.\n", "a1\n2\n3\n.\n", "a1 2\n2\n3\n"},
		{"all come", [][4]int{{0, 0, 0, 2}}, "", "1\n2\n", "0a\n1\n2\n.\n", "a0\n1\n2\n.\n", "a0 2\n1\n2\n"},
		// both
		{"one for one at the beginning", [][4]int{{0, 1, 0, 1}}, "1\n2\n", "x\n2\n", "1c\nx\n.\n", "c1\nx\n.\n", "d1 1\na1 1\nx\n"},
		{"one for two in the middle", [][4]int{{1, 1, 1, 2}}, "1\n2\n3\n", "1\nx\ny\n3\n", "2c\nx\ny\n.\n", "c2\nx\ny\n.\n", "d2 1\na2 2\nx\ny\n"},
		{"two for one in the middle", [][4]int{{1, 2, 1, 1}}, "1\n2\n3\n4\n", "1\nx\n4\n", "2,3c\nx\n.\n", "c2 3\nx\n.\n", "d2 2\na3 1\nx\n"},
		{"two for three at the end", [][4]int{{1, 2, 1, 3}}, "1\n2\n3\n", "1\nx\ny\nz\n", "2,3c\nx\ny\nz\n.\n", "c2 3\nx\ny\nz\n.\n", "d2 2\na3 3\nx\ny\nz\n"},
		{"all for all", [][4]int{{0, 2, 0, 2}}, "1\n2\n", "x\ny\n", "1,2c\nx\ny\n.\n", "c1 2\nx\ny\n.\n", "d1 2\na2 2\nx\ny\n"},
		// several: from the last one on, and from the first one on
		{"one of each kind", [][4]int{{0, 1, 0, 0}, {2, 0, 1, 2}, {3, 2, 4, 1}}, "1\n2\n3\n4\n5\n", "2\nx\ny\n3\nz\n",
			"4,5c\nz\n.\n2a\nx\ny\n.\n1d\n", "d1\na2\nx\ny\n.\nc4 5\nz\n.\n", "d1 1\na2 2\nx\ny\nd4 2\na5 1\nz\n"},
		{"numbers of two digits", [][4]int{{0, 0, 0, 9}, {9, 2, 18, 1}}, strings.Repeat("1\n", 11), strings.Repeat("1\n", 19),
			"10,11c\n1\n.\n0a\n" + strings.Repeat("1\n", 9) + ".\n", "a0\n" + strings.Repeat("1\n", 9) + ".\nc10 11\n1\n.\n", "a0 9\n" + strings.Repeat("1\n", 9) + "d10 2\na11 1\n1\n"},
		// not normal
		{"one goes, one comes", [][4]int{{1, 1, 1, 0}, {2, 0, 1, 1}}, "1\n2\n3\n", "1\nx\n3\n", "2c\nx\n.\n", "c2\nx\n.\n", "d2 1\na2 1\nx\n"},
		{"one comes, one goes", [][4]int{{1, 0, 1, 1}, {1, 1, 2, 0}}, "1\n2\n3\n", "1\nx\n3\n", "2c\nx\n.\n", "c2\nx\n.\n", "d2 1\na2 1\nx\n"},
		{"two that go one by one", [][4]int{{0, 1, 0, 0}, {1, 1, 0, 0}}, "1\n2\n", "", "1,2d\n", "d1 2\n", "d1 2\n"},
		{"two that come one by one", [][4]int{{0, 0, 0, 1}, {0, 0, 1, 1}}, "", "1\n2\n", "0a\n1\n2\n.\n", "a0\n1\n2\n.\n", "a0 2\n1\n2\n"},
		{"three that touch, and one that does not", [][4]int{{0, 1, 0, 1}, {1, 1, 1, 0}, {2, 0, 1, 1}, {3, 1, 3, 0}}, "1\n2\n3\n4\n", "x\ny\n3\n",
			"4d\n1,2c\nx\ny\n.\n", "c1 2\nx\ny\n.\nd4\n", "d1 2\na2 2\nx\ny\nd4 1\n"},
		// No call asks whether what stays is the same.
		{"unlike lines that stay", [][4]int{{0, 1, 0, 1}}, "1\n2\n", "x\ny\n", "1c\nx\n.\n", "c1\nx\n.\n", "d1 1\na1 1\nx\n"},
		{"unlike texts without a change", nil, "1\n", "2\n", "", "", ""},
		// lines of any bytes
		{"lines that look like others", [][4]int{{0, 0, 0, 5}}, "", "\n1d\ns/.//\na\nd1 1\n", "0a\n\n1d\ns/.//\na\nd1 1\n.\n", "a0\n\n1d\ns/.//\na\nd1 1\n.\n", "a0 5\n\n1d\ns/.//\na\nd1 1\n"},
		{"bytes", [][4]int{{0, 1, 0, 1}}, "\xff\n", "\x00\r\x80\n", "1c\n\x00\r\x80\n.\n", "c1\n\x00\r\x80\n.\n", "d1 1\na1 1\n\x00\r\x80\n"},
	} {
		s, a, b := script(c.s), lines.Split(c.a), lines.Split(c.b)
		got, err := Print(s, a, b)
		isText(t, "Print: "+c.name, got, err, c.print)
		got, err = Forward(s, a, b)
		isText(t, "Forward: "+c.name, got, err, c.forward)
		got, err = Rcs(s, a, b)
		isText(t, "Rcs: "+c.name, got, err, c.rc)
	}
}

// ED1, ED5, ED6: lines that are a dot alone, at each place of what comes; Print goes round them, the others tell them as they are.
func TestDots(t *testing.T) {
	for _, c := range []struct {
		come, want string
	}{
		{".\n", "..\n.\ns/.//\n"},
		{".\nx\n", "..\n.\ns/.//\na\nx\n.\n"},
		{"x\n.\n", "x\n..\n.\ns/.//\n"},
		{"x\n.\ny\n", "x\n..\n.\ns/.//\na\ny\n.\n"},
		{"x\ny\n.\nz\nu\n", "x\ny\n..\n.\ns/.//\na\nz\nu\n.\n"},
		{".\n.\n", "..\n.\ns/.//\na\n..\n.\ns/.//\n"},
		{".\n.\n.\n", "..\n.\ns/.//\na\n..\n.\ns/.//\na\n..\n.\ns/.//\n"},
		{"x\n.\n.\ny\n", "x\n..\n.\ns/.//\na\n..\n.\ns/.//\na\ny\n.\n"},
		{".\nx\n.\n", "..\n.\ns/.//\na\nx\n..\n.\ns/.//\n"},
		{".\nx\n.\ny\n.\nz\n", "..\n.\ns/.//\na\nx\n..\n.\ns/.//\na\ny\n..\n.\ns/.//\na\nz\n.\n"},
		// lines that only begin with a dot, or end with one
		{"..\n", "..\n.\n"},
		{"...\n..\n", "...\n..\n.\n"},
		{". \n.x\n.\r\n", ". \n.x\n.\r\n.\n"},
		{" .\nx.\n.\x00\n", " .\nx.\n.\x00\n.\n"},
		{"..\n.\n", "..\n..\n.\ns/.//\n"},
	} {
		come := lines.Split(c.come)
		for _, p := range []struct {
			s                     [4]int
			old                   string
			print, forward, wrote string
		}{
			{[4]int{0, 0, 0, len(come)}, "", "0a", "a0", "a0"},
			{[4]int{0, 2, 0, len(come)}, "1\n2\n", "1,2c", "c1 2", "d1 2\na2"},
			{[4]int{0, 1, 0, len(come)}, ".\n", "1c", "c1", "d1 1\na1"},
		} {
			s, a := script([][4]int{p.s}), lines.Split(p.old)
			got, err := Print(s, a, come)
			isText(t, "Print", got, err, p.print+"\n"+c.want)
			got, err = Forward(s, a, come)
			isText(t, "Forward", got, err, p.forward+"\n"+c.come+".\n")
			got, err = Rcs(s, a, come)
			isText(t, "Rcs", got, err, fmt.Sprintf("%s %d\n%s", p.wrote, len(come), c.come))
		}
	}
	// Dots that stay are told by none of them.
	for name, call := range printers() {
		got, err := call(nil, []string{".\n"}, []string{".\n"})
		isText(t, name, got, err, "")
	}
}

// notLines are lists that are no text's lines.
func notLines() [][]string {
	return [][]string{{""}, {"1", "2\n"}, {"1\n", ""}, {"", "1\n"}, {"1\n2\n"}, {"1\n2"}, {"\n\n"}, {"1\n\n", "2\n"}, {"1\n", "\n2"}, {"1", "2"}}
}

// badScripts are changes that are no script from two lines to two.
func badScripts() [][][4]int {
	return [][][4]int{
		{{0, 0, 0, 0}},
		{{0, 1, 0, 0}},
		{{0, 0, 0, 1}},
		{{2, 1, 2, 1}},
		{{1, 2, 1, 2}},
		{{0, 1, 1, 1}},
		{{-1, 1, -1, 1}},
		{{0, -1, 0, -1}},
		{{1, 1, 1, 1}, {0, 1, 0, 1}},
		{{0, 1, 0, 1}, {0, 1, 0, 1}},
		{{0, 2, 0, 2}, {2, 0, 2, 0}},
		{{math.MaxInt, math.MaxInt, math.MaxInt, math.MaxInt}},
		{{math.MinInt, math.MaxInt, math.MinInt, math.MaxInt}},
		{{1, math.MaxInt, 1, math.MaxInt}},
	}
}

// ED1, ED5, ED6: lists that are no text's lines, on either side, whether a change tells them or they stay, or the changes are none: ErrForm.
func TestPrintersLineErrors(t *testing.T) {
	for name, call := range printers() {
		for _, bad := range notLines() {
			n := len(bad)
			fine, cut := slices.Repeat([]string{"x\n"}, n), append(slices.Repeat([]string{"x\n"}, n-1), "x")
			for _, s := range append(badScripts(), nil, [][4]int{{0, n, 0, n}}, [][4]int{{0, 1, 0, 1}}, [][4]int{{n - 1, 1, n - 1, 1}}) {
				for _, c := range [][2][]string{{bad, fine}, {fine, bad}, {bad, bad}, {bad, cut}, {cut, bad}, {bad, nil}, {nil, bad}} {
					got, err := call(script(s), c[0], c[1])
					noText(t, fmt.Sprintf("%s: %v %q", name, s, c), got, err, api.ErrForm)
				}
			}
		}
	}
}

// ED1, ED5, ED6: the errors of edits.Valid, of lines that are whole, and of some that are not.
func TestPrintersEditErrors(t *testing.T) {
	whole, cut := []string{"1\n", "2\n"}, []string{"1\n", "2"}
	for name, call := range printers() {
		for _, s := range badScripts() {
			for _, c := range [][2][]string{{whole, whole}, {whole, cut}, {cut, whole}, {cut, cut}} {
				got, err := call(script(s), c[0], c[1])
				noText(t, fmt.Sprintf("%s: %v %q", name, s, c), got, err, api.ErrEdit)
			}
		}
		for _, c := range [][2][]string{{whole, whole[:1]}, {whole[:1], whole}, {cut, whole[:1]}, {nil, cut}} {
			got, err := call(nil, c[0], c[1])
			noText(t, fmt.Sprintf("%s: no change of %q", name, c), got, err, api.ErrEdit)
		}
	}
}

// ED1, ED5, ED6: a line that is not whole, on either side, whether it goes, comes or stays: ErrDot.
func TestPrintersEndErrors(t *testing.T) {
	whole, cut := []string{"1\n", "2\n"}, []string{"1\n", "2"}
	for name, call := range printers() {
		for _, s := range [][][4]int{nil, {{0, 1, 0, 1}}, {{1, 1, 1, 1}}, {{0, 2, 0, 2}}, {{0, 1, 0, 0}, {2, 0, 1, 1}}} {
			for _, c := range [][2][]string{{whole, cut}, {cut, whole}, {cut, cut}} {
				got, err := call(script(s), c[0], c[1])
				noText(t, fmt.Sprintf("%s: %v %q", name, s, c), got, err, api.ErrDot)
			}
			got, err := call(script(s), whole, whole)
			if err != nil || (got == "") != (s == nil) {
				t.Errorf("%s: %v of whole lines: %q, %v", name, s, got, err)
			}
		}
		for _, line := range []string{"1", ".", "\x00"} {
			got, err := call(script([][4]int{{0, 1, 0, 0}}), []string{line}, nil)
			noText(t, name+": it goes", got, err, api.ErrDot)
			got, err = call(script([][4]int{{0, 0, 0, 1}}), nil, []string{line})
			noText(t, name+": it comes", got, err, api.ErrDot)
		}
	}
}

// ED1, ED5, ED6: no more than MaxBytes lines, by edits.Valid; what is no text's lines comes ahead of that.
func TestPrintersLongErrors(t *testing.T) {
	long := slices.Repeat([]string{"\n"}, api.MaxBytes+1)
	cut := slices.Concat(long[1:], []string{"x"})
	bad := slices.Concat(long[1:], []string{""})
	for name, call := range printers() {
		for _, c := range []struct {
			a, b []string
			err  error
		}{
			{long, long, api.ErrArg}, {long, nil, api.ErrArg}, {nil, long, api.ErrArg},
			{cut, cut, api.ErrArg}, {cut, nil, api.ErrArg}, {nil, cut, api.ErrArg},
			{bad, long, api.ErrForm}, {long, bad, api.ErrForm}, {bad, nil, api.ErrForm}, {nil, bad, api.ErrForm},
		} {
			for _, s := range [][][4]int{nil, {{0, 0, 0, 0}}} {
				got, err := call(script(s), c.a, c.b)
				noText(t, name+": too many lines", got, err, c.err)
			}
		}
		got, err := call(nil, long[1:], long[1:])
		isText(t, name+": as many lines as may be", got, err, "")
	}
}

// allScripts are all edit scripts from n lines to m, those that are not normal too.
func allScripts(n, m int) [][]api.Change {
	var all [][]api.Change
	var ahead []api.Change
	var from func(a, b int)
	from = func(a, b int) {
		if a == n && b == m {
			all = append(all, slices.Clone(ahead))
		}
		if a < n && b < m {
			from(a+1, b+1)
		}
		for gone := range n - a + 1 {
			for come := range m - b + 1 {
				if gone+come > 0 {
					ahead = append(ahead, api.Change{A: a, N: gone, B: b, M: come})
					from(a+gone, b+come)
					ahead = ahead[:len(ahead)-1]
				}
			}
		}
	}
	from(0, 0)
	return all
}

// joined is a script with the changes that touch put together.
func joined(s []api.Change) []api.Change {
	var l []api.Change
	for _, c := range s {
		if len(l) > 0 {
			last := &l[len(l)-1]
			if last.A+last.N == c.A && last.B+last.M == c.B {
				last.N, last.M = last.N+c.N, last.M+c.M
				continue
			}
		}
		l = append(l, c)
	}
	return l
}

// roundDots are lines of text that go round dots, by the chapter's words, line by line.
func roundDots(come []string) string {
	var w strings.Builder
	for i, line := range come {
		more := i < len(come)-1
		switch {
		case line == ".\n" && more:
			w.WriteString("..\n.\ns/.//\na\n")
		case line == ".\n":
			w.WriteString("..\n.\ns/.//\n")
		case more:
			w.WriteString(line)
		default:
			w.WriteString(line + ".\n")
		}
	}
	return w.String()
}

// toldChange is what Print, Forward and Rcs tell of a change, by the chapter's words.
func toldChange(c api.Change, come []string) (string, string, string) {
	first, last := c.A+1, c.A+c.N
	span, blank := fmt.Sprintf("%d,%d", first, last), fmt.Sprintf("%d %d", first, last)
	if first == last {
		span, blank = fmt.Sprint(first), fmt.Sprint(first)
	}
	all := strings.Join(come, "")
	goes, comes := fmt.Sprintf("d%d %d\n", first, c.N), fmt.Sprintf("a%d %d\n%s", last, c.M, all)
	switch {
	case c.N == 0:
		return fmt.Sprintf("%da\n%s", c.A, roundDots(come)), fmt.Sprintf("a%d\n%s.\n", c.A, all), comes
	case c.M == 0:
		return span + "d\n", "d" + blank + "\n", goes
	}
	return span + "c\n" + roundDots(come), "c" + blank + "\n" + all + ".\n", goes + comes
}

// told is what Print, Forward and Rcs tell of a script, by the chapter's words.
func told(s []api.Change, b []string) (string, string, string) {
	var print, forward, wrote string
	for _, c := range joined(s) {
		p, f, w := toldChange(c, b[c.B:c.B+c.M])
		print, forward, wrote = p+print, forward+f, wrote+w
	}
	return print, forward, wrote
}

// ED1, ED5, ED6: all small scripts, with lines that are a dot and others.
func TestPrintersOfAllSmall(t *testing.T) {
	texts := smallTexts([]string{"x\n", ".\n", "..\n"}, 3)
	n := 0
	for _, y := range texts {
		for _, x := range []string{"", "1\n", "1\n.\n", "1\n2\n3\n"} {
			a, b := lines.Split(x), lines.Split(y)
			for _, s := range allScripts(len(a), len(b)) {
				print, forward, wrote := told(s, b)
				got, err := Print(s, a, b)
				isText(t, fmt.Sprintf("Print of %v %q", s, y), got, err, print)
				got, err = Forward(s, a, b)
				isText(t, fmt.Sprintf("Forward of %v %q", s, y), got, err, forward)
				got, err = Rcs(s, a, b)
				isText(t, fmt.Sprintf("Rcs of %v %q", s, y), got, err, wrote)
				n++
			}
		}
	}
	if n < 10000 {
		t.Error("only", n, "scripts")
	}
}
