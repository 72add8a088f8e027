package side

import (
	"fmt"
	"math"
	"regexp"
	"selvage/api"
	"selvage/edits"
	"slices"
	"strings"
	"testing"
)

// SI6: what is told of changes of each kind, at each place.
func TestInline(t *testing.T) {
	for _, c := range []struct {
		name string
		s    [][4]int
		a, b []string
		want string
	}{
		{"nothing", nil, nil, nil, ""},
		{"no change", nil, []string{"a", "b"}, []string{"a", "b"}, "ab"},
		// old ones alone
		{"the first goes", [][4]int{{0, 1, 0, 0}}, []string{"a", "b"}, []string{"b"}, "[-a-]b"},
		{"two in the middle go", [][4]int{{1, 2, 1, 0}}, []string{"a", "b", "c", "d"}, []string{"a", "d"}, "a[-bc-]d"},
		{"the last goes", [][4]int{{1, 1, 1, 0}}, []string{"a", "b"}, []string{"a"}, "a[-b-]"},
		{"all go", [][4]int{{0, 3, 0, 0}}, []string{"a", " ", "b"}, nil, "[-a b-]"},
		// new ones alone
		{"one comes at the beginning", [][4]int{{0, 0, 0, 1}}, []string{"b"}, []string{"a", "b"}, "{+a+}b"},
		{"two come in the middle", [][4]int{{1, 0, 1, 2}}, []string{"a", "d"}, []string{"a", "b", "c", "d"}, "a{+bc+}d"},
		{"one comes at the end", [][4]int{{1, 0, 1, 1}}, []string{"a"}, []string{"a", "b"}, "a{+b+}"},
		{"all come", [][4]int{{0, 0, 0, 3}}, nil, []string{"a", " ", "b"}, "{+a b+}"},
		// both
		{"one for one", [][4]int{{0, 1, 0, 1}}, []string{"a"}, []string{"b"}, "[-a-]{+b+}"},
		{"one for two", [][4]int{{1, 1, 1, 2}}, []string{"a", "x", "b"}, []string{"a", "y", "z", "b"}, "a[-x-]{+yz+}b"},
		{"two for one", [][4]int{{1, 2, 1, 1}}, []string{"a", "x", "y", "b"}, []string{"a", "z", "b"}, "a[-xy-]{+z+}b"},
		{"what goes comes again", [][4]int{{0, 2, 0, 2}}, []string{"a", "b"}, []string{"a", "b"}, "[-ab-]{+ab+}"},
		{"of each kind", [][4]int{{0, 1, 0, 0}, {2, 0, 1, 1}, {3, 1, 3, 1}}, []string{"1", "2", "3", "4", "5"}, []string{"2", "x", "3", "y", "5"}, "[-1-]2{+x+}3[-4-]{+y+}5"},
		// empty strings: what goes, or comes, is something, though it has no bytes
		{"empty ones that stay", nil, []string{"", ""}, []string{"", ""}, ""},
		{"an empty one goes", [][4]int{{0, 1, 0, 0}}, []string{""}, nil, "[--]"},
		{"an empty one comes", [][4]int{{0, 0, 0, 1}}, nil, []string{""}, "{++}"},
		{"empty ones for empty ones", [][4]int{{1, 2, 1, 1}}, []string{"a", "", "", "b"}, []string{"a", "", "b"}, "a[--]{++}b"},
		{"an empty one for another", [][4]int{{0, 1, 0, 1}}, []string{""}, []string{"x"}, "[--]{+x+}"},
		{"another for an empty one", [][4]int{{0, 1, 0, 1}}, []string{"x"}, []string{""}, "[-x-]{++}"},
		{"an empty one among others", [][4]int{{0, 3, 0, 0}}, []string{"x", "", "y"}, nil, "[-xy-]"},
		// not normal
		{"one goes, one comes", [][4]int{{1, 1, 1, 0}, {2, 0, 1, 1}}, []string{"a", "x", "b"}, []string{"a", "y", "b"}, "a[-x-]{+y+}b"},
		{"one comes, one goes", [][4]int{{1, 0, 1, 1}, {1, 1, 2, 0}}, []string{"a", "x", "b"}, []string{"a", "y", "b"}, "a[-x-]{+y+}b"},
		{"two go one by one", [][4]int{{0, 1, 0, 0}, {1, 1, 0, 0}}, []string{"a", "b"}, nil, "[-ab-]"},
		{"two come one by one", [][4]int{{0, 0, 0, 1}, {0, 0, 1, 1}}, nil, []string{"a", "b"}, "{+ab+}"},
		{"three that touch, and one that does not", [][4]int{{0, 1, 0, 1}, {1, 1, 1, 0}, {2, 0, 1, 1}, {3, 1, 3, 0}}, []string{"1", "2", "3", "4"}, []string{"x", "y", "3"}, "[-12-]{+xy+}3[-4-]"},
		// No call asks whether what stays is the same.
		{"unlike ones that stay", nil, []string{"a", "b"}, []string{"x", ""}, "x"},
		{"unlike ones around a change", [][4]int{{1, 1, 1, 1}}, []string{"a", "b", "c"}, []string{"x", "y", "z"}, "x[-b-]{+y+}z"},
		// any strings
		{"ends and bytes", [][4]int{{0, 1, 0, 1}}, []string{"a\nb\n", "\n"}, []string{"\x00\xff", "\n"}, "[-a\nb\n-]{+\x00\xff+}\n"},
		{"marks", [][4]int{{1, 1, 1, 1}}, []string{"[-", "-]"}, []string{"[-", "{+"}, "[-[--]-]{+{++}"},
	} {
		got, err := Inline(script(c.s...), c.a, c.b)
		isText(t, c.name, got, err, c.want)
	}
}

// badScripts are changes that are no script from two lines to two.
func badScripts() [][][4]int {
	return [][][4]int{
		{{0, 0, 0, 0}},
		{{0, 1, 0, 0}},
		{{0, 0, 0, 1}},
		{{2, 1, 2, 1}},
		{{1, 2, 1, 2}},
		{{0, 1, 1, 1}},
		{{-1, 1, -1, 1}},
		{{0, -1, 0, -1}},
		{{1, 1, 1, 1}, {0, 1, 0, 1}},
		{{0, 1, 0, 1}, {0, 1, 0, 1}},
		{{0, 2, 0, 2}, {2, 0, 2, 0}},
		{{math.MaxInt, math.MaxInt, math.MaxInt, math.MaxInt}},
		{{math.MinInt, math.MaxInt, math.MinInt, math.MaxInt}},
		{{1, math.MaxInt, 1, math.MaxInt}},
	}
}

// SI6: the errors of edits.Valid, whatever the strings are.
func TestInlineErrors(t *testing.T) {
	for _, s := range badScripts() {
		for _, l := range [][]string{{"a", "b"}, {"", ""}, {"a\nb", "\n"}} {
			got, err := Inline(script(s...), l, l)
			noText(t, fmt.Sprint(s), got, err, api.ErrEdit)
		}
	}
	for _, c := range [][2][]string{{{"a"}, nil}, {nil, {"a"}}, {{"a", "b"}, {"ab"}}, {{""}, nil}} {
		got, err := Inline(nil, c[0], c[1])
		noText(t, fmt.Sprintf("no change of %q", c), got, err, api.ErrEdit)
	}
	long := make([]string, api.MaxBytes+1)
	for _, c := range [][2][]string{{long, long}, {long, nil}, {nil, long}} {
		for _, s := range [][]api.Change{nil, script([4]int{0, 0, 0, 0})} {
			got, err := Inline(s, c[0], c[1])
			noText(t, "too many strings", got, err, api.ErrArg)
		}
	}
	got, err := Inline(nil, long[1:], long[1:])
	isText(t, "as many strings as may be", got, err, "")
}

// inlineByWords is what Inline tells by the chapter's words: each string by itself, by whether it stays.
func inlineByWords(s []api.Change, a, b []string) string {
	goes, comes := make([]bool, len(a)), make([]bool, len(b))
	for _, c := range s {
		for i := range c.N {
			goes[c.A+i] = true
		}
		for i := range c.M {
			comes[c.B+i] = true
		}
	}
	text := ""
	for i, j := 0, 0; i < len(a) || j < len(b); {
		if i < len(a) && j < len(b) && !goes[i] && !comes[j] {
			text += b[j]
			i, j = i+1, j+1
			continue
		}
		if i < len(a) && goes[i] {
			text += "[-"
			for ; i < len(a) && goes[i]; i++ {
				text += a[i]
			}
			text += "-]"
		}
		if j < len(b) && comes[j] {
			text += "{+"
			for ; j < len(b) && comes[j]; j++ {
				text += b[j]
			}
			text += "+}"
		}
	}
	return text
}

var (
	cameForm  = regexp.MustCompile(`(?s)\{\+.*?\+\}`)
	wentForm  = regexp.MustCompile(`(?s)\[-.*?-\]`)
	wentMarks = strings.NewReplacer("[-", "", "-]", "")
	cameMarks = strings.NewReplacer("{+", "", "+}", "")
)

// isToldBack fails where a is not what Inline tells without what came, or b what it tells without what went.
func isToldBack(t *testing.T, s []api.Change, a, b []string) {
	t.Helper()
	text, err := Inline(s, a, b)
	isErr(t, "Inline", err, nil)
	if old := wentMarks.Replace(cameForm.ReplaceAllString(text, "")); old != strings.Join(a, "") {
		t.Errorf("%v %q %q: %q: %q", s, a, b, text, old)
	}
	if fresh := cameMarks.Replace(wentForm.ReplaceAllString(text, "")); fresh != strings.Join(b, "") {
		t.Errorf("%v %q %q: %q: %q", s, a, b, text, fresh)
	}
}

// fitting is a list that a script leads to from a: what stays is a's, what comes is told by a call for each.
func fitting(s []api.Change, a []string, come func(i int) string) []string {
	var b []string
	at := 0
	for _, c := range s {
		b = append(b, a[at:c.A]...)
		for range c.M {
			b = append(b, come(len(b)))
		}
		at = c.A + c.N
	}
	return append(b, a[at:]...)
}

// SI6, SI7: all small scripts, with unlike strings, with those that fit, and with empty ones.
func TestInlineOfAllSmall(t *testing.T) {
	for n := range 5 {
		for m := range 5 {
			for _, s := range allScripts(n, m) {
				a := []string{"1", "", "3\n", " "}[:n]
				b := []string{"", "x", "y\n", "z"}[:m]
				what := fmt.Sprintf("%v %q %q", s, a, b)
				got, err := Inline(s, a, b)
				isText(t, what, got, err, inlineByWords(s, a, b))
				isToldBack(t, s, a, fitting(s, a, func(i int) string { return b[i] }))
				isToldBack(t, s, a, fitting(s, a, func(i int) string { return "" }))
			}
		}
	}
}

// SI6, SI7: the pieces of longer texts, with longer scripts.
func TestInlineOfPieces(t *testing.T) {
	next := steps(9)
	text := func() string {
		var b strings.Builder
		for range next.below(60) {
			b.WriteByte("ab_1 \t\n.;=\xe4\xff"[next.below(12)])
		}
		return b.String()
	}
	for range 3000 {
		a, come := Words(text()), Words(text())
		s := randomScript(&next, len(a), len(come))
		got, err := Inline(s, a, come)
		isText(t, fmt.Sprintf("%v %q %q", s, a, come), got, err, inlineByWords(s, a, come))
		isToldBack(t, s, a, fitting(s, a, func(i int) string { return come[i] }))
		// The script that is normal tells the same.
		normal, err := edits.Normal(s, len(a), len(come))
		isErr(t, "Normal", err, nil)
		again, err := Inline(normal, a, come)
		isText(t, "the normal script", again, err, got)
		if !slices.Equal(normal, joined(s)) {
			t.Error(normal, s)
		}
	}
}
