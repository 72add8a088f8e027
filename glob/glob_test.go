package glob

import (
	"errors"
	"selvage/api"
	"slices"
	"strings"
	"testing"
	"time"
)

// smallTexts are all texts of at most so many of these pieces.
func smallTexts(pieces []string, most int) []string {
	all := []string{""}
	for from := 0; most > 0; most-- {
		longest := all[from:]
		from = len(all)
		for _, s := range longest {
			for _, piece := range pieces {
				all = append(all, s+piece)
			}
		}
	}
	return all
}

// each are the bytes of a text, one by one.
func each(s string) []string {
	l := make([]string, len(s))
	for i := range l {
		l[i] = s[i : i+1]
	}
	return l
}

// everyByte is a text with each byte once, rising.
func everyByte() string {
	b := make([]byte, 256)
	for i := range b {
		b[i] = byte(i)
	}
	return string(b)
}

// bytesFrom is a text with each byte from low to high.
func bytesFrom(low, high byte) string {
	return everyByte()[low : int(high)+1]
}

// not are the bytes that a text does not have.
func not(s string) string {
	var b strings.Builder
	for _, c := range each(everyByte()) {
		if !strings.Contains(s, c) {
			b.WriteString(c)
		}
	}
	return b.String()
}

// compiled is a pattern that must be one.
func compiled(t *testing.T, pattern string) *Glob {
	t.Helper()
	g, err := Compile(pattern)
	if g == nil || err != nil {
		t.Fatalf("Compile(%.60q) = %v, %v", pattern, g, err)
	}
	return g
}

// refuse holds that a pattern is none, with this error.
func refuse(t *testing.T, pattern string, want error) {
	t.Helper()
	if g, err := Compile(pattern); g != nil || err != want {
		t.Errorf("Compile(%.60q) = %v, %v, not nil, %v", pattern, g, err, want)
	}
}

// means holds that a pattern means these names and not those.
func means(t *testing.T, pattern string, yes, no []string) {
	t.Helper()
	g := compiled(t, pattern)
	for _, name := range yes {
		if !g.Match(name) {
			t.Errorf("%.60q does not mean %.60q", pattern, name)
		}
	}
	for _, name := range no {
		if g.Match(name) {
			t.Errorf("%.60q means %.60q", pattern, name)
		}
	}
}

// G1, G2: the chapter's examples, and those of the table of what stands in a pattern.
func TestMatch(t *testing.T) {
	for _, c := range []struct {
		pattern string
		yes, no []string
	}{
		{"*.o", []string{"a.o", ".o", "a.o.o", "..o"}, []string{"a.oo", "o", "", ".", "a.o ", "a.O"}},
		{"[a-c]?", []string{"b1", "ab", "c?"}, []string{"d1", "b", "b12", "", "1b"}},
		{"a]", []string{"a]"}, []string{"a", "]", "a]]"}},
		{"", []string{""}, []string{"a", "\x00", " ", "*"}},
		{"*", []string{"", "a", "ab", "*", "a/b", ".", ".a", "\x00", "\n", "\xff\xfe"}, nil},
		{"**", []string{"", "a", "ab", "a/b", "**"}, nil},
		{"***a***", []string{"a", "xa", "ax", "xax", "aa"}, []string{"", "b"}},
		{"?", []string{"a", "?", "/", ".", "\x00", "\n", "\x80", "\xff"}, []string{"", "ab", "\u00e4"}},
		{"??", []string{"ab", "\u00e4"}, []string{"", "a", "abc"}},
		{"?*", []string{"a", "ab"}, []string{""}},
		{"*?", []string{"a", "ab"}, []string{""}},
		{"*??*", []string{"ab", "abc"}, []string{"", "a"}},
		{"a*", []string{"a", "ab", "aa", "a\n"}, []string{"", "b", "ba"}},
		{"a*b", []string{"ab", "aab", "abb", "a*b", "axb"}, []string{"", "a", "b", "ba", "abc", "a"}},
		{"a*b*c", []string{"abc", "aXbYc", "abcbc", "abbcc"}, []string{"ac", "acb", "ab", "abcb"}},
		{"*ab*ab*", []string{"abab", "xabyabz", "aabab"}, []string{"ab", "aba", "aabb"}},
		{"*aab", []string{"aab", "aaab", "aaaaab", "aabaab"}, []string{"aaba", "ab"}},
		{"*a*", []string{"a", "ba", "ab"}, []string{"", "b", "A"}},
		{"abc", []string{"abc"}, []string{"ab", "abcd", "Abc", "", "xabc"}},
		{"a/b", []string{"a/b"}, []string{"ab", "a"}},
		{"a*c", []string{"a/b/c"}, nil},
		{"a?c", []string{"a/c"}, nil},
		{`\*`, []string{"*"}, []string{"a", `\*`, `\`, "", "**"}},
		{`\?`, []string{"?"}, []string{"a", `\?`}},
		{`\[`, []string{"["}, []string{"a", `\[`}},
		{`\[a]`, []string{"[a]"}, []string{"a"}},
		{`\\`, []string{`\`}, []string{`\\`, ""}},
		{`\a`, []string{"a"}, []string{`\a`, "\a"}},
		{`\]`, []string{"]"}, []string{`\]`}},
		{`\\*`, []string{`\`, `\a`}, []string{"*", ""}},
		{`\\\*`, []string{`\*`}, []string{`\a`, `\\*`}},
		{"\\\n", []string{"\n"}, []string{"\\\n"}},
		{"\\\x00", []string{"\x00"}, []string{"", "0"}},
		{"\\\xff", []string{"\xff"}, []string{"\xfe"}},
		{"!^-]", []string{"!^-]"}, []string{"!^-"}},
		{"a#b", []string{"a#b"}, []string{"a"}},
		{" ", []string{" "}, []string{"", "  "}},
		{"\x00", []string{"\x00"}, []string{"", "\x00\x00", "\x01"}},
		{"a\x00*", []string{"a\x00", "a\x00b"}, []string{"a", "ab"}},
		{"\x80\xff", []string{"\x80\xff"}, []string{"\x80", "\xff\x80", "\u00ff"}},
		{"{a,b}", []string{"{a,b}"}, []string{"a", "b"}},
		{"a|b", []string{"a|b"}, []string{"a"}},
		{"~", []string{"~"}, nil},
		{"a.c", []string{"a.c"}, []string{"abc"}},
		{"a+", []string{"a+"}, []string{"aa"}},
	} {
		means(t, c.pattern, c.yes, c.no)
	}
}

// G1: no patterns, in the table's words and of the chapter's examples.
func TestCompileRefuses(t *testing.T) {
	for _, p := range []string{
		"[", "[]", "[a", `a\`, "[[:wide:]]", // the examples
		`\`, `\\\`, `*\`, `a\\\`, `[a]\`, // a backslash at the end
		`[\`, `[a\`, `[a-\`, `[!\`, `[^\`, `[]\`, `[[:alpha:]\`, `[\]\`, // also within a set
		"[!", "[^", "[!]", "[^]", "[!a", "[^a", "[a-", "[-", "[--", "[a-c", "[a-c-", `[\]`, `[a\]`, `[a-\]`, "[!!", "[^^", "[]a", "[!]a", "[[", "[[a", "a[", "*[", "[a][", "[a]b[c", // sets that do not end
		"[:", "[:alpha:", // sets too, of which `:` is the first item
		"[[:", "[[:]", "[[:]]", "[[::]]", "[[:alpha", "[[:alpha:", "[[:alpha:]", "[[:alpha]", "[[:alpha]]", "[[:alpha:x]]", "[[:Alpha:]]", "[[:ALPHA:]]", "[[: alpha:]]", "[[:alpha :]]", "[[:alph:]]", "[[:alphaa:]]", "[[:word:]]", "[[:ascii:]]", `[[:\alpha:]]`, `[[:alpha\:]]`, "[[:alpha:]", "[a[:]", "[a[:]]", "[a-[:]]", "[a-[:x:]]", "[![:x:]]", "[^[:]]", "[][:]]", "[[:alpha:][:x:]]", "[[:alpha:]-[:]]", // no class
		"[[:digit:]", "[![:digit:]", "[[:digit:]-", "[a-[:digit:]", // classes in sets that do not end
	} {
		refuse(t, p, api.ErrGlob)
		refuse(t, "x*"+p, api.ErrGlob)
	}
}

// G1: MaxPattern bytes, and one more, which counts ahead of what else is wrong.
func TestCompileLong(t *testing.T) {
	for _, unit := range []string{"a", "*", "?", "[]a-c]", `\*`, "[[:alpha:]]", "\xff"} {
		most := strings.Repeat(unit, api.MaxPattern/len(unit))
		most += strings.Repeat("x", api.MaxPattern-len(most))
		compiled(t, most)
		refuse(t, most+"x", api.ErrLong)
	}
	name := strings.Repeat("a", api.MaxPattern)
	means(t, name, []string{name}, []string{name[1:], name + "a", ""})
	refuse(t, strings.Repeat("[", api.MaxPattern), api.ErrGlob)
	refuse(t, strings.Repeat("a", api.MaxPattern-1)+`\`, api.ErrGlob)
	refuse(t, strings.Repeat("a", api.MaxPattern)+`\`, api.ErrLong)
	refuse(t, strings.Repeat("[", api.MaxPattern+1), api.ErrLong)
	refuse(t, strings.Repeat("a", api.MaxBytes), api.ErrLong)
}

// refPart is a part of a pattern by the chapter's table: the bytes it has, or any number of bytes.
type refPart struct {
	has  string
	many bool
}

// refPattern reads a pattern by the table.
func refPattern(pattern string) (parts []refPart, ok bool) {
	for pattern != "" {
		c := pattern[:1]
		pattern = pattern[1:]
		switch {
		case c == "*":
			parts = append(parts, refPart{many: true})
			continue
		case c == "?":
			c = everyByte()
		case c == "[":
			if c, pattern, ok = refSet(pattern); !ok {
				return nil, false
			}
		case c == `\` && pattern == "":
			return nil, false
		case c == `\`:
			c, pattern = pattern[:1], pattern[1:]
		}
		parts = append(parts, refPart{has: c})
	}
	return parts, true
}

// refMeans asks by G2's words: can a name be cut into pieces, one for each part?
func refMeans(parts []refPart, name string) bool {
	if len(parts) == 0 {
		return name == ""
	}
	if !parts[0].many {
		return name != "" && strings.Contains(parts[0].has, name[:1]) && refMeans(parts[1:], name[1:])
	}
	for cut := 0; cut <= len(name); cut++ {
		if refMeans(parts[1:], name[cut:]) {
			return true
		}
	}
	return false
}

// agree holds Compile and Match against the reference.
func agree(t *testing.T, pattern string, names []string) {
	t.Helper()
	parts, ok := refPattern(pattern)
	if !ok {
		refuse(t, pattern, api.ErrGlob)
		return
	}
	g, err := Compile(pattern)
	if g == nil || err != nil {
		t.Errorf("Compile(%q) = %v, %v", pattern, g, err)
		return
	}
	for _, name := range names {
		if want := refMeans(parts, name); g.Match(name) != want {
			t.Errorf("%q of %q: not %v", pattern, name, want)
		}
	}
}

// G1, G2: all short patterns against the reference.
func TestSmallPatterns(t *testing.T) {
	names := append(smallTexts(each("ab"), 4), "]", "[", "-", "!", "^", `\`, "a]", "]]", "b-", "-]", "*", "?", `a\`)
	for _, p := range smallTexts(each(`[]!-\*?ab`), 5) {
		agree(t, p, names)
	}
}

// G2: stars among bytes, against the reference.
func TestSmallStars(t *testing.T) {
	names := smallTexts(each("ab"), 7)
	for _, p := range smallTexts(each("*?ab"), 6) {
		agree(t, p, names)
	}
}

// anyCase is what Any is to answer.
type anyCase struct {
	patterns []string
	name     string
	want     bool
	err      error
}

func (c anyCase) check(t *testing.T) {
	t.Helper()
	if is, err := Any(c.patterns, c.name); is != c.want || err != c.err {
		t.Errorf("Any(%.60q, %.60q) = %v, %v, not %v, %v", c.patterns, c.name, is, err, c.want, c.err)
	}
}

// G3: Any, also where a later pattern is none, and which error is told.
func TestAny(t *testing.T) {
	long, longest := strings.Repeat("a", api.MaxPattern+1), strings.Repeat("*", api.MaxPattern)
	for _, c := range []anyCase{
		{nil, "a", false, nil},
		{nil, "", false, nil},
		{[]string{}, "a", false, nil},
		{[]string{""}, "", true, nil},
		{[]string{""}, "a", false, nil},
		{[]string{"x", "a*"}, "ab", true, nil},
		{[]string{"a*", "x"}, "ab", true, nil},
		{[]string{"x", "a*", "y"}, "ab", true, nil},
		{[]string{"x", "y"}, "ab", false, nil},
		{[]string{"a", "b"}, "ab", false, nil},
		{[]string{"a*", "a*", "*"}, "ab", true, nil},
		{[]string{longest}, "ab", true, nil},
		{[]string{"["}, "ab", false, api.ErrGlob},
		{[]string{"a*", "["}, "ab", false, api.ErrGlob},
		{[]string{"[", "a*"}, "ab", false, api.ErrGlob},
		{[]string{"x", "["}, "ab", false, api.ErrGlob},
		{[]string{"[", long}, "ab", false, api.ErrGlob},
		{[]string{long, "["}, "ab", false, api.ErrLong},
		{[]string{"a*", long}, "ab", false, api.ErrLong},
		{[]string{"a*", long, "["}, "ab", false, api.ErrLong},
		{[]string{"a*", `\`, long}, "ab", false, api.ErrGlob},
	} {
		c.check(t)
	}
}

// G3: Any of pairs of patterns is the one or the other.
func TestAnyOfPairs(t *testing.T) {
	patterns := []string{"", "a", "b*", "*", "?", "[ab]", "[!a]", `\*`, "[", `a\`, strings.Repeat("a", api.MaxPattern+1)}
	for _, p := range patterns {
		for _, q := range patterns {
			for _, name := range []string{"", "a", "b", "ab", "ba", "*"} {
				want := anyCase{patterns: []string{p, q}, name: name}
				g, err := Compile(p)
				h, wrong := Compile(q)
				if err == nil {
					err = wrong
				}
				want.err = err
				want.want = err == nil && (g.Match(name) || h.Match(name))
				want.check(t)
			}
		}
	}
}

// G4: Escape.
func TestEscape(t *testing.T) {
	for name, want := range map[string]string{
		"":           "",
		"a":          "a",
		"*":          `\*`,
		"?":          `\?`,
		"[":          `\[`,
		`\`:          `\\`,
		"]":          "]",
		"a*[b]?\\":   `a\*\[b]\?\\`,
		"**":         `\*\*`,
		`\*`:         `\\\*`,
		"[!a-b]":     `\[!a-b]`,
		"!#-^ ":      "!#-^ ",
		"a/b":        "a/b",
		"\x00\n\xff": "\x00\n\xff",
	} {
		if got := Escape(name); got != want {
			t.Errorf("Escape(%q) = %q, not %q", name, got, want)
		}
	}
	for _, c := range each(everyByte()) {
		want := c
		if strings.Contains(`*?[\`, c) {
			want = `\` + c
		}
		if got := Escape(c); got != want {
			t.Errorf("Escape(%q) = %q, not %q", c, got, want)
		}
		if got := Escape("a" + c + "b"); got != "a"+want+"b" {
			t.Errorf("Escape of %q between two bytes = %q", c, got)
		}
	}
	if got := Escape(strings.Repeat("*", api.MaxBytes)); got != strings.Repeat(`\*`, api.MaxBytes) {
		t.Error("Escape of many stars")
	}
}

// G5: an escaped name means itself alone.
func TestEscapedMeansItself(t *testing.T) {
	names := append(smallTexts(each(`*?[]\!-a`), 3), each(everyByte())...)
	for _, name := range names {
		g := compiled(t, Escape(name))
		for _, other := range names {
			if g.Match(other) != (other == name) {
				t.Errorf("Escape(%q) of %q: %v", name, other, other != name)
			}
		}
	}
	every := everyByte()
	means(t, Escape(every), []string{every}, []string{every[1:], every + "a", Escape(every)})
	most := strings.Repeat("*", api.MaxPattern/2)
	means(t, Escape(most), []string{most}, []string{most[1:], most + "*", Escape(most)})
	refuse(t, Escape(most+"*"), api.ErrLong)
}

// G5: a pattern of two patterns means a name of two names that they mean.
func TestPatternsJoined(t *testing.T) {
	patterns := []string{"", "a", "b", "*", "?", "a*", "*b", "[ab]", "[!a]", `\*`, "[]-]", "a?b", "*a*"}
	names := smallTexts(each("ab]*"), 3)
	for _, p := range patterns {
		for _, q := range patterns {
			both, g, h := compiled(t, p+q), compiled(t, p), compiled(t, q)
			for _, x := range names {
				if !g.Match(x) {
					continue
				}
				for _, y := range names {
					if h.Match(y) && !both.Match(x+y) {
						t.Errorf("%q does not mean %q", p+q, x+y)
					}
				}
			}
		}
	}
}

// hasPiece tells whether somewhere in a name stands one that a pattern means.
func hasPiece(g *Glob, name string) bool {
	for from := 0; from <= len(name); from++ {
		for to := from; to <= len(name); to++ {
			if g.Match(name[from:to]) {
				return true
			}
		}
	}
	return false
}

// G5: a pattern between two stars.
func TestPatternsBetweenStars(t *testing.T) {
	for _, p := range smallTexts([]string{"a", "b", "*", "?", "[!a]", `\]`}, 3) {
		g, wide := compiled(t, p), compiled(t, "*"+p+"*")
		for _, name := range smallTexts(each("ab]"), 5) {
			if want := hasPiece(g, name); wide.Match(name) != want {
				t.Errorf("%q of %q: not %v", "*"+p+"*", name, want)
			}
		}
	}
}

// soon fails where a call does not end within a time that is far more than it needs.
func soon(t *testing.T, what string, call func()) {
	t.Helper()
	done := make(chan struct{})
	go func() {
		call()
		close(done)
	}()
	select {
	case <-done:
	case <-time.After(20 * time.Second):
		t.Fatal(what, "takes too long")
	}
}

// G6: long names and patterns that can be cut in many ways.
func TestMatchEndsSoon(t *testing.T) {
	name := strings.Repeat("a", 1<<16)
	for _, c := range []struct {
		pattern, name string
		want          bool
	}{
		{strings.Repeat("*", 1024), name, true},
		{strings.Repeat("*", 1024), "", true},
		{strings.Repeat("*", 1023) + "b", name, false},
		{strings.Repeat("*", 1023) + "b", name + "b", true},
		{"b" + strings.Repeat("*", 1023), name, false},
		{strings.Repeat("*a", 512), name, true},
		{strings.Repeat("*a", 511) + "*b", name, false},
		{strings.Repeat("a*", 511) + "b", name, false},
		{strings.Repeat("*?", 512), name, true},
		{strings.Repeat("*?", 511) + "*b", name + "b", true},
		{strings.Repeat("?*", 511) + "?b", name, false},
		{"*" + strings.Repeat("a", 1022) + "b", name, false},
		{"*" + strings.Repeat("a", 1022) + "b", name + "b", true},
		{"*" + strings.Repeat("?", 1022) + "b", name, false},
		{strings.Repeat("*[!b]", 200) + "*b*a", name, false},
		{strings.Repeat("*aab", 200), strings.Repeat("aab", 1<<14) + name, false},
		{strings.Repeat("*aab", 200) + "*", strings.Repeat("aab", 1<<14) + name, true},
		{"*" + strings.Repeat("ab*", 300) + "ba", strings.Repeat("ab", 1<<15), false},
		{"a*", strings.Repeat("a", api.MaxBytes), true},
	} {
		g := compiled(t, c.pattern)
		soon(t, "Match", func() {
			if g.Match(c.name) != c.want {
				t.Errorf("%.10q.. of %.10q.. (%d bytes): not %v", c.pattern, c.name, len(c.name), c.want)
			}
		})
	}
}

// isErrno holds that an error is one of api's.
func isErrno(t *testing.T, what, arg string, err error) {
	t.Helper()
	var e api.Errno
	if err != nil && !errors.As(err, &e) {
		t.Errorf("%s(%.60q): %v is no api.Errno", what, arg, err)
	}
}

// P1: nothing panics, errors are api's, and beside one nothing is answered.
func TestNothingPanics(t *testing.T) {
	texts := append(smallTexts([]string{"[", "]", ":", "-", `\`, "!", "/", "\n", " ", "\xff"}, 4),
		everyByte(), "["+everyByte(), strings.Repeat("[", api.MaxPattern), strings.Repeat(`\`, api.MaxPattern), strings.Repeat("[[:alpha:]", 100), strings.Repeat("[", api.MaxPattern+1),
		strings.Repeat("/", api.MaxPath), strings.Repeat("!", api.MaxPath), strings.Repeat("**/", api.MaxPath), strings.Repeat("\n", api.MaxBytes), strings.Repeat("\x00", api.MaxBytes+1))
	plain, _, _ := Read("a\n!b/\n/c\n**/d/**\n")
	for _, s := range texts {
		g, err := Compile(s)
		isErrno(t, "Compile", s, err)
		if (g == nil) != (err != nil) {
			t.Errorf("Compile(%.60q) = %v, %v", s, g, err)
		}
		if g != nil {
			g.Match("")
			g.Match(s)
		}
		is, err := Any([]string{s, "*"}, s)
		isErrno(t, "Any", s, err)
		if is != (err == nil) {
			t.Errorf("Any(%.60q) = %v, %v", s, is, err)
		}
		Escape(s)
		r, line, err := Read(s)
		isErrno(t, "Read", s, err)
		if (r == nil) != (err != nil) || err == nil && line != 0 {
			t.Errorf("Read(%.60q) = %v, %d, %v", s, r, line, err)
		}
		if r != nil {
			r.Ignored("a/b", true)
		}
		plain.Ignored(s, false)
	}
}

// P2: the list of patterns stays as it is, behind its length too.
func TestPatternsStay(t *testing.T) {
	for _, l := range [][]string{nil, {"a"}, {"x", "a*"}, {"b", "["}, {"[", "*"}, {"*", "a", "?"}} {
		room := append(slices.Clone(l), "behind", "it")
		kept := slices.Clone(room)
		want, wrong := Any(slices.Clone(l), "a")
		is, err := Any(room[:len(l)], "a")
		if !slices.Equal(room, kept) || is != want || err != wrong {
			t.Errorf("Any(%q) = %v, %v, and the list is %q", l, is, err, room)
		}
	}
}

// P2: what a pattern answers does not hang on other patterns, nor on the names asked ahead.
func TestPatternsStandAlone(t *testing.T) {
	patterns := []string{"a*", "[a-c]", "[!a-c]", "[[:alpha:]]x", "?", "**", ""}
	names := smallTexts(each("abx"), 3)
	var globs []*Glob
	for _, p := range patterns {
		globs = append(globs, compiled(t, p))
	}
	ask := func(name string) (answers []bool) {
		for _, g := range globs {
			answers = append(answers, g.Match(name))
		}
		return answers
	}
	var first [][]bool
	for _, name := range names {
		first = append(first, ask(name))
	}
	for i := len(names) - 1; i >= 0; i-- {
		again := ask(names[i])
		if !slices.Equal(first[i], again) {
			t.Errorf("%q: %v, then %v", names[i], first[i], again)
		}
		for k, p := range patterns {
			if compiled(t, p).Match(names[i]) != again[k] {
				t.Errorf("%q of %q, read again: not %v", p, names[i], again[k])
			}
		}
	}
}
