package glob

import (
	"selvage/api"
	"slices"
	"strings"
	"testing"
)

// rulesOf are rules that must be such.
func rulesOf(t *testing.T, text string) *Rules {
	t.Helper()
	r, line, err := Read(text)
	if r == nil || line != 0 || err != nil {
		t.Fatalf("Read(%.60q) = %v, %d, %v", text, r, line, err)
	}
	return r
}

// refuseRules holds that a text is no rules: which line is told, and which error.
func refuseRules(t *testing.T, text string, line int, want error) {
	t.Helper()
	if r, at, err := Read(text); r != nil || at != line || err != want {
		t.Errorf("Read(%.60q) = %v, %d, %v, not nil, %d, %v", text, r, at, err, line, want)
	}
}

// ignoresCase is what rules ignore, and what they do not. A path that ends with `/` is asked as a directory.
type ignoresCase struct {
	text    string
	yes, no []string
}

func (c ignoresCase) check(t *testing.T) {
	t.Helper()
	r := rulesOf(t, c.text)
	for _, p := range c.yes {
		if !r.Ignored(p, strings.HasSuffix(p, "/")) {
			t.Errorf("%.60q does not ignore %.60q", c.text, p)
		}
	}
	for _, p := range c.no {
		if r.Ignored(p, strings.HasSuffix(p, "/")) {
			t.Errorf("%.60q ignores %.60q", c.text, p)
		}
	}
}

// G7, G9: the chapter's example.
func TestRulesOfTheExample(t *testing.T) {
	ignoresCase{
		"*.o\n!keep.o\n/build/\ndoc/**/x\n",
		[]string{"a.o", "d/a.o", "build/", "build/q", "doc/x", "doc/a/b/x", "doc/a/x/y"},
		[]string{"keep.o", "d/keep.o", "build", "d/build/", "d/build", "d/build/q", "doc", "doc/", "doc/a", "x", "a/doc/x", "doc/xx"},
	}.check(t)
}

// G7: lines that say nothing, and blanks at a line's end.
func TestLinesAndBlanks(t *testing.T) {
	for _, c := range []ignoresCase{
		{"", nil, []string{"a", "a/", "#", " "}},
		{"\n", nil, []string{"a", "\n"}},
		{"\n\n\na\n\n", []string{"a"}, []string{"b"}},
		{"a", []string{"a"}, []string{"b"}},
		{"a\nb", []string{"a", "b"}, []string{"a\nb", "ab", "c"}},
		{"#a", nil, []string{"a", "#a", "#"}},
		{"#", nil, []string{"#"}},
		{"#[", nil, []string{"["}},
		{"#" + strings.Repeat("a", api.MaxPattern+1), nil, []string{"a"}},
		{"   ", nil, []string{" ", "   "}},
		{" #a", []string{" #a"}, []string{"#a", "a"}},
		{"a#", []string{"a#"}, []string{"a"}},
		{`\#a`, []string{"#a"}, []string{"a", `\#a`}},
		{"!#a\n", nil, []string{"#a", "a"}},
		{"#a\n!#a", nil, []string{"#a"}},
		{"*\n!#a", []string{"a", "#b"}, []string{"#a"}},
		{"a ", []string{"a"}, []string{"a "}},
		{"a    \nb", []string{"a", "b"}, []string{"a    "}},
		{" a", []string{" a"}, []string{"a"}},
		{" a ", []string{" a"}, []string{"a", " a "}},
		{"a b", []string{"a b"}, []string{"a", "b"}},
		{`a\ `, []string{"a "}, []string{"a", `a\`, "a  "}},
		{`a\  `, []string{"a "}, []string{"a", "a  "}},
		{`a\    `, []string{"a "}, []string{"a", "a    "}},
		{`a \ `, []string{"a  "}, []string{"a ", "a"}},
		{`a\ \ `, []string{"a  "}, []string{"a ", "a"}},
		{`\ `, []string{" "}, []string{"", "  "}},
		{`a\\ `, []string{`a\ `}, []string{`a\`, "a "}}, // whatever stands ahead of the backslash
		{`a\\  `, []string{`a\ `}, []string{`a\`, `a\  `}},
		{`a\\\ `, []string{`a\ `}, []string{`a\`}},
		{`a\\`, []string{`a\`}, []string{"a"}},
		{"a\t", []string{"a\t"}, []string{"a"}},
		{"a\t ", []string{"a\t"}, []string{"a", "a\t "}},
		{"a\r\n", []string{"a\r"}, []string{"a"}},
		{"\t", []string{"\t"}, []string{""}},
		{"a/ ", []string{"a/", "a/b"}, []string{"a", "a "}},
		{`a/\ `, []string{"a/ "}, []string{"a/", "a"}},
		{`a\ /`, []string{"a /", "a /b"}, []string{"a/", "a "}},
		{"a\x00", []string{"a\x00"}, []string{"a"}},
		{"\xff*", []string{"\xff", "\xff\x00a"}, []string{"\xfe", "\u00ff"}},
	} {
		c.check(t)
	}
}

// G7: rules that take back.
func TestRulesThatTakeBack(t *testing.T) {
	for _, c := range []ignoresCase{
		{"!a", nil, []string{"a", "!a", "b"}},
		{"a\n!a", nil, []string{"a", "b/a", "a/b"}},
		{"!a\na", []string{"a", "b/a"}, []string{"!a"}},
		{"*\n!a", []string{"b", "aa", "b/a"}, []string{"a"}},
		{"a*\n!ab\nabc*\n!abcd", []string{"a", "aa", "abc", "abcde"}, []string{"ab", "abcd", "b"}},
		{`\!a`, []string{"!a"}, []string{"a", `\!a`}},
		{"*\n!!a", []string{"a"}, []string{"!a"}},
		{"*\n! a", []string{"a"}, []string{" a"}},
		{" !a", []string{" !a"}, []string{"a", "!a"}},
		{"a!", []string{"a!"}, []string{"a"}},
		{"a\n!a/", []string{"a"}, []string{"a/", "a/b"}},
		{"a/\n!a", nil, []string{"a/", "a", "a/b"}},
		{"*\n!/a", []string{"b", "b/a"}, []string{"a"}},
		{"*\n!**/", []string{"a", "a/b"}, []string{"a/", "a/b/"}},
		// what lies below an ignored directory cannot be taken back
		{"a/\n!a/b", []string{"a/", "a/b", "a/b/", "a/b/c"}, []string{"a"}},
		{"a\n!b", []string{"a/b", "a/b/", "a/c"}, []string{"b", "c/b"}},
		{"a/*\n!a/b", []string{"a/c", "a/c/b"}, []string{"a/b", "a/b/c", "a", "a/"}},
		{"a/**\n!a/b", []string{"a/c", "a/b/c"}, []string{"a/b", "a/b/", "a"}},
		{"a/**\n!a/b/\n!a/b/**", []string{"a/c", "a/b"}, []string{"a/b/", "a/b/c", "a/b/c/d", "a"}},
		{"*\n!a\n!a/b", []string{"b", "a/c", "b/a"}, []string{"a", "a/b"}},
		{"/*\n!/a/\n/a/*\n!/a/b", []string{"b", "a", "a/c"}, []string{"a/", "a/b"}},
	} {
		c.check(t)
	}
}

// G7: a slash at the beginning, within and at the end.
func TestRulesWithSlashes(t *testing.T) {
	for _, c := range []ignoresCase{
		{"a/", []string{"a/", "b/a/", "a/b", "a/b/", "b/a/c"}, []string{"a", "b/a", "b/", "aa/"}},
		{"a", []string{"a", "a/", "b/a", "b/a/", "a/b", "b/a/c"}, []string{"b", "aa", "b/aa"}},
		{"/a", []string{"a", "a/", "a/b"}, []string{"b/a", "b/a/", "b"}},
		{"/a/", []string{"a/", "a/b"}, []string{"a", "b/a/", "b/a/c"}},
		{"a/b", []string{"a/b", "a/b/", "a/b/c"}, []string{"a", "a/", "b", "c/a/b", "a/c/b", "a/bb"}},
		{"/a/b", []string{"a/b", "a/b/", "a/b/c"}, []string{"a", "a/", "b", "c/a/b"}},
		{"a/b/", []string{"a/b/", "a/b/c"}, []string{"a/b", "a/", "c/a/b/"}},
		{"a/b/c", []string{"a/b/c"}, []string{"a/b", "b/c", "a/b/d"}},
		{"*/b", []string{"a/b", "c/b"}, []string{"b", "a/c/b"}},
		{"a/*", []string{"a/b", "a/b/c"}, []string{"a", "a/", "b/a", "c/a/b"}},
		{"a*b", []string{"ab", "acb", "d/ab"}, []string{"a/b", "a/cb"}}, // a star means bytes of one name
		{"a?b", []string{"acb"}, []string{"a/b"}},
		{"[!a]", []string{"b", "a/b"}, []string{"a", "a/a"}},
		{"/*", []string{"a", "a/", "a/b"}, nil},
		{"/?", []string{"a", "a/bb"}, []string{"bb", "bb/a"}},
		{"*/*", []string{"a/b", "a/b/c"}, []string{"a", "a/"}},
		{"*/", []string{"a/", "a/b", "b/c/"}, []string{"a", "b"}},
		// empty pieces mean no name of any path
		{"//", nil, []string{"a", "a/", "/", "//", "a/b"}},
		{"///", nil, []string{"a", "a/", "/", "a/b"}},
		{"//a", nil, []string{"a", "a/", "/a", "//a", "b/a"}},
		{"a//", nil, []string{"a", "a/", "a//", "a/b"}},
		{"a//b", nil, []string{"a", "a/b", "a//b", "a/c/b"}},
		{"**//a", nil, []string{"a", "b/a", "b//a"}},
		{"//**", nil, []string{"a", "a/b"}},
		{"a\n!//", []string{"a"}, []string{"b"}},
	} {
		c.check(t)
	}
}

// G7: two stars as a piece: first, within, last and alone.
func TestRulesWithTwoStars(t *testing.T) {
	for _, c := range []ignoresCase{
		{"**/a", []string{"a", "b/a", "b/c/a", "a/b", "a/"}, []string{"b", "aa", "b/c"}},
		{"/**/a", []string{"a", "b/a", "b/c/a"}, []string{"b"}},
		{"**/a/b", []string{"a/b", "c/a/b", "c/d/a/b", "a/a/b", "a/b/c"}, []string{"a", "b", "a/c/b", "a/c", "b/a"}},
		{"a/**/b", []string{"a/b", "a/c/b", "a/c/d/b", "a/b/b", "a/b/c"}, []string{"a", "b", "a/c", "c/a/b", "a/c/d"}},
		{"a/**/b/**/c", []string{"a/b/c", "a/x/b/c", "a/b/x/c", "a/x/y/b/z/c", "a/b/b/c"}, []string{"a/c", "a/c/b", "a/b", "b/c"}},
		{"a/**/**/b", []string{"a/b", "a/c/b", "a/c/d/b"}, []string{"a", "a/c"}},
		{"a/**", []string{"a/b", "a/b/", "a/b/c", "a/a"}, []string{"a", "a/", "b", "b/a", "b/a/c"}},
		{"/a/**", []string{"a/b", "a/b/c"}, []string{"a", "a/"}},
		{"a/**/", []string{"a/b/", "a/b/c", "a/b/c/"}, []string{"a", "a/", "a/b"}},
		{"a/**/**", []string{"a/b", "a/b/c"}, []string{"a", "a/"}},
		{"a/**/*", []string{"a/b", "a/b/c"}, []string{"a", "a/"}},
		{"**/a/**", []string{"a/b", "b/a/c", "b/c/a/d/e"}, []string{"a", "a/", "b/a", "b/a/"}},
		{"**", []string{"a", "a/", "a/b", "**"}, []string{"", "/"}},
		{"/**", []string{"a", "a/", "a/b"}, []string{"", "/"}},
		{"**/", []string{"a/", "a/b", "a/b/"}, []string{"a", "b", ""}},
		{"/**/", []string{"a/", "a/b"}, []string{"a", ""}},
		{"**/**", []string{"a", "a/", "a/b"}, []string{""}},
		{"**/*", []string{"a", "a/", "a/b"}, nil},
		{"*/**", []string{"a/b", "a/b/c"}, []string{"a", "a/"}},
		{"*\n!**", nil, []string{"a", "a/b"}},
		{"*\n!/**", nil, []string{"a", "a/b"}},
		{"*\n!**/", []string{"a"}, []string{"a/"}},
		// two stars among others are a pattern of one name
		{"a**", []string{"a", "ab", "b/ab"}, []string{"b"}},
		{"a**/b", []string{"a/b", "ax/b"}, []string{"a/x/b", "b"}},
		{"a/***", []string{"a/b", "a/b/c"}, []string{"a"}},
		{"a/***/b", []string{"a/c/b"}, []string{"a/b", "a/c/d/b"}},
		{`a/\**/b`, []string{"a/*/b", "a/*x/b"}, []string{"a/b", "a/x/b"}},
		{`\*\*`, []string{"**", "a/**"}, []string{"a", "*"}},
	} {
		c.check(t)
	}
}

// G8: texts that are no rules: which line, and which error where two could be.
func TestReadRefuses(t *testing.T) {
	long, longest := strings.Repeat("a", api.MaxPattern+1), strings.Repeat("a", api.MaxPattern)
	for _, c := range []struct {
		text string
		line int
		err  error
	}{
		{"[", 1, api.ErrGlob},
		{"[\n", 1, api.ErrGlob},
		{"a\n[\nb", 2, api.ErrGlob},
		{"\n\n#[\n  \n[", 5, api.ErrGlob},
		{"a\nb\n\\", 3, api.ErrGlob},
		{"!", 1, api.ErrGlob},
		{"/", 1, api.ErrGlob},
		{"!/", 1, api.ErrGlob},
		{"!  ", 1, api.ErrGlob},
		{"/   ", 1, api.ErrGlob},
		{"a\n!/ \n", 2, api.ErrGlob},
		{"!\n[", 1, api.ErrGlob},
		{"!\n" + long, 1, api.ErrGlob},
		{long + "\n!", 1, api.ErrLong},
		{long, 1, api.ErrLong},
		{"a\n" + long + "\n[", 2, api.ErrLong},
		{"a\n[\n" + long, 2, api.ErrGlob},
		{"[/" + long, 1, api.ErrGlob},
		{long + "/[", 1, api.ErrLong},
		{"a/" + long + "/[", 1, api.ErrLong},
		{"a/[/" + long, 1, api.ErrGlob},
		{"**/[", 1, api.ErrGlob},
		{"[/**", 1, api.ErrGlob},
		{"![", 1, api.ErrGlob},
		{"!/[/", 1, api.ErrGlob},
		{"!" + long, 1, api.ErrLong},
		{"/" + long, 1, api.ErrLong},
		{long + "/", 1, api.ErrLong},
		{`a\/`, 1, api.ErrGlob},
		{`a\/b`, 1, api.ErrGlob},
		{"[a/]", 1, api.ErrGlob},
		{"[a/b]", 1, api.ErrGlob},
		{"[!/]a", 1, api.ErrGlob},
		{"a\\\nb", 1, api.ErrGlob},
		{"[a\n]", 1, api.ErrGlob},
		{strings.Repeat("*", api.MaxPattern+1), 1, api.ErrLong},
		{strings.Repeat("[", api.MaxPattern+1), 1, api.ErrLong},
		{strings.Repeat("\n", 1000) + "[", 1001, api.ErrGlob},
	} {
		refuseRules(t, c.text, c.line, c.err)
	}
	for _, text := range []string{longest, "!" + longest, "/" + longest, longest + "/", "!/" + longest + "/" + longest + "/", longest + "   ", "**/" + longest + "/**", strings.Repeat("*", api.MaxPattern)} {
		rulesOf(t, text)
		rulesOf(t, text+"\n"+text+"\n")
	}
}

// G8: a text of MaxBytes bytes, and one of one byte more, whatever else is wrong with it.
func TestReadLong(t *testing.T) {
	for _, unit := range []string{"\n", " ", "#", "a\n", "**/", "a/"} {
		text := strings.Repeat(unit, api.MaxBytes/len(unit)+1)
		rulesOf(t, text[:api.MaxBytes])
		refuseRules(t, text[:api.MaxBytes+1], 0, api.ErrLong)
	}
	text := "a\n!b\n[" + strings.Repeat("\n", api.MaxBytes)
	refuseRules(t, text[:api.MaxBytes], 3, api.ErrGlob)
	refuseRules(t, text[:api.MaxBytes+1], 0, api.ErrLong)
	refuseRules(t, strings.Repeat("a", api.MaxBytes), 1, api.ErrLong)
	ignoresCase{strings.Repeat("\n", api.MaxBytes-1) + "a", []string{"a"}, []string{"b"}}.check(t)
	refuseRules(t, strings.Repeat("\n", api.MaxBytes-1)+"[", api.MaxBytes, api.ErrGlob)
}

// G9: paths with empty names, and those of no name.
func TestPathsWithEmptyNames(t *testing.T) {
	for _, text := range []string{"*", "**", "/**", "**/**", "?*", "a\n", ""} {
		r := rulesOf(t, text)
		for _, p := range []string{"", "/", "//", "///////"} {
			if r.Ignored(p, false) || r.Ignored(p, true) {
				t.Errorf("%q ignores %q", text, p)
			}
		}
	}
	for _, c := range []ignoresCase{
		{"/a/b", []string{"a/b", "/a/b", "//a//b", "a///b", "/a/b/", "a/b//c"}, []string{"b/a", "/b", "x/a/b"}},
		{"a", []string{"/a", "//a", "a//", "/b//a"}, []string{"/b", "/"}},
		{"a/", []string{"/a/", "a//b", "//a/b"}, []string{"/a", "//a"}},
	} {
		c.check(t)
	}
	// Whether it is a directory hangs on what is said of it, not on a slash at its end.
	r := rulesOf(t, "a/")
	if r.Ignored("a/", false) || r.Ignored("b/a//", false) || !r.Ignored("a", true) || !r.Ignored("b/a", true) || !r.Ignored("a/b", false) {
		t.Error("directories by their slash")
	}
	// Names of a path are any texts.
	ignoresCase{".", []string{".", "a/./b"}, []string{"..", "a"}}.check(t)
	ignoresCase{"..", []string{"..", "a/../b"}, []string{".", "a"}}.check(t)
}

// refRule is a rule by G7's words.
type refRule struct {
	pieces             []string
	back, dirs, rooted bool
}

// refRead reads rules by G7 and G8: the line of the first that is none.
func refRead(text string) (list []refRule, line int) {
	for i, s := range strings.Split(text, "\n") {
		for strings.HasSuffix(s, " ") && !strings.HasSuffix(s, `\ `) {
			s = s[:len(s)-1]
		}
		if s == "" || s[0] == '#' {
			continue
		}
		var r refRule
		if s[0] == '!' {
			r.back = true
			s = s[1:]
		}
		if s != "" && s[len(s)-1] == '/' {
			r.dirs = true
			s = s[:len(s)-1]
		}
		if s == "" {
			return nil, i + 1
		}
		r.rooted = strings.Contains(s, "/")
		if s[0] == '/' {
			s = s[1:]
		}
		r.pieces = strings.Split(s, "/")
		for _, p := range r.pieces {
			if _, ok := refPattern(p); !ok && !(r.rooted && p == "**") {
				return nil, i + 1
			}
		}
		list = append(list, r)
	}
	return list, 0
}

// refNames tells whether pieces of a rooted rule mean names.
func refNames(pieces, names []string, several bool) bool {
	if len(pieces) == 0 {
		return len(names) == 0
	}
	if pieces[0] != "**" {
		if len(names) == 0 {
			return false
		}
		parts, _ := refPattern(pieces[0])
		return refMeans(parts, names[0]) && refNames(pieces[1:], names[1:], several)
	}
	if len(pieces) == 1 && several {
		return len(names) > 0
	}
	for cut := range len(names) + 1 {
		if refNames(pieces[1:], names[cut:], several) {
			return true
		}
	}
	return false
}

// means tells whether a rule means a path.
func (r refRule) means(names []string, dir bool) bool {
	if r.dirs && !dir {
		return false
	}
	if r.rooted {
		return refNames(r.pieces, names, len(r.pieces) > 1)
	}
	parts, _ := refPattern(r.pieces[0])
	return refMeans(parts, names[len(names)-1])
}

// refIgnored asks by G9's words.
func refIgnored(list []refRule, path string, dir bool) bool {
	var names []string
	for _, name := range strings.Split(path, "/") {
		if name != "" {
			names = append(names, name)
		}
	}
	for n := 1; n <= len(names); n++ {
		for i := len(list) - 1; i >= 0; i-- {
			if list[i].means(names[:n], dir || n < len(names)) {
				if !list[i].back {
					return true
				}
				break
			}
		}
	}
	return false
}

// agreeRules holds Read and Ignored against the reference.
func agreeRules(t *testing.T, text string, paths []string) {
	t.Helper()
	list, line := refRead(text)
	if line != 0 {
		refuseRules(t, text, line, api.ErrGlob)
		return
	}
	r, at, err := Read(text)
	if r == nil || at != 0 || err != nil {
		t.Errorf("Read(%q) = %v, %d, %v", text, r, at, err)
		return
	}
	for _, p := range paths {
		for _, dir := range []bool{false, true} {
			if want := refIgnored(list, p, dir); r.Ignored(p, dir) != want {
				t.Errorf("%q of %q (directory: %v): not %v", text, p, dir, want)
			}
		}
	}
}

// somePaths are all paths of at most so many of these names.
func somePaths(names []string, most int) []string {
	var steps []string
	for _, name := range names {
		steps = append(steps, "/"+name)
	}
	paths := smallTexts(steps, most)
	for i := range paths {
		paths[i] = strings.TrimPrefix(paths[i], "/")
	}
	return paths
}

// G7, G8, G9: all short rules against the reference.
func TestSmallRules(t *testing.T) {
	paths := append(somePaths([]string{"a", "b"}, 3), "!a", "#a", "a ", " a", " ", "!", "#", "*", `\`, "//a", "a//b/", "ab", "a/ab")
	for _, text := range smallTexts(each("a*/! \\"), 5) {
		agreeRules(t, text, paths)
	}
	for _, text := range smallTexts(each("a/!#\n"), 5) {
		agreeRules(t, text, paths)
	}
}

// G7, G9: rooted rules of many pieces against the reference.
func TestSmallRootedRules(t *testing.T) {
	paths := somePaths([]string{"a", "b"}, 5)
	for _, text := range smallTexts([]string{"a/", "b/", "**/", "*/", "/"}, 4) {
		for _, last := range []string{"", "a", "**", "*"} {
			if text+last != "" {
				agreeRules(t, text+last, paths)
			}
		}
	}
}

// G9: rows of rules against the reference.
func TestSmallRows(t *testing.T) {
	paths := somePaths([]string{"a", "b", "c"}, 3)
	for _, text := range smallTexts([]string{"a\n", "!a\n", "a/\n", "!a/\n", "*\n", "!*\n", "/a\n", "!/b/\n", "a/**\n", "!a/b\n", "**/c\n", "!b\n"}, 3) {
		agreeRules(t, text, paths)
	}
}

// sameRules holds that two texts of rules ignore the same.
func sameRules(t *testing.T, one, other string, paths []string) {
	t.Helper()
	r, s := rulesOf(t, one), rulesOf(t, other)
	for _, p := range paths {
		for _, dir := range []bool{false, true} {
			if r.Ignored(p, dir) != s.Ignored(p, dir) {
				t.Errorf("%q and %q answer otherwise of %q (directory: %v)", one, other, p, dir)
			}
		}
	}
}

// manyRules are rules to hold promises against.
func manyRules() []string {
	return []string{"a", "!a", "a/", "/a", "!/a/", "a/b", "a/**", "**/b", "a/**/b", "*", "!*", "**", "**/", "!b/", "[!a]", "?/?", `\*`, "#a", "", "//", "a b", "c*"}
}

// G10: what lies below an ignored directory is ignored.
func TestBelowAnIgnoredDirectory(t *testing.T) {
	paths := somePaths([]string{"a", "b", "cc"}, 3)
	for _, one := range manyRules() {
		for _, other := range manyRules() {
			r := rulesOf(t, one+"\n"+other+"\n!c\n")
			for _, p := range paths {
				if p == "" || !r.Ignored(p, true) {
					continue
				}
				for _, below := range []string{"/a", "/b", "/c", "/a/b/c", "/cc/a"} {
					if !r.Ignored(p+below, false) || !r.Ignored(p+below, true) {
						t.Errorf("%q, %q: %q is ignored, %q is not", one, other, p, p+below)
					}
				}
			}
		}
	}
}

// G10: no rules, rules said again, and rules taken back at once.
func TestRulesSaidAgain(t *testing.T) {
	paths := append(somePaths([]string{"a", "b", "cc"}, 3), "*", "!a", "a b", "#a")
	for _, none := range []string{"", "\n\n", "#a\n# *", "   \n"} {
		r := rulesOf(t, none)
		for _, p := range paths {
			if r.Ignored(p, false) || r.Ignored(p, true) {
				t.Errorf("%q ignores %q", none, p)
			}
		}
	}
	for _, one := range manyRules() {
		sameRules(t, one+"\n"+one, one, paths)
		for _, other := range manyRules() {
			rules := one + "\n" + other
			sameRules(t, rules+"\n"+rules, rules, paths)
			sameRules(t, rules+"\n"+other, rules, paths)
			if other == "" {
				continue
			}
			ahead, taken := rulesOf(t, one), rulesOf(t, rules+"\n!"+other)
			for _, p := range paths {
				for _, dir := range []bool{false, true} {
					if taken.Ignored(p, dir) && !ahead.Ignored(p, dir) {
						t.Errorf("%q, and %q taken back, ignore %q", one, other, p)
					}
				}
			}
		}
	}
}

// G10: the escaped name as a rule.
func TestEscapedNamesAsRules(t *testing.T) {
	names := smallTexts(each(`*?[]\!# a`), 3)
	names = append(names, "\x00", "\xff", "\r", "a\tb", "[a-b]", "[!a]", "a b c")
	names = slices.DeleteFunc(names, func(name string) bool {
		return name == "" || name == "**" || strings.HasSuffix(name, " ")
	})
	for _, name := range names {
		text := Escape(name)
		if name[0] == '!' || name[0] == '#' {
			text = `\` + text
		}
		r := rulesOf(t, text)
		for _, p := range []string{name, "x/" + name, name + "/x", "x/" + name + "/y"} {
			if !r.Ignored(p, false) || !r.Ignored(p, true) {
				t.Errorf("%q does not ignore %q", text, p)
			}
		}
		for _, other := range names {
			if other != name && (r.Ignored(other, true) || r.Ignored("x/"+other+"/y", false)) {
				t.Errorf("%q ignores %q", text, other)
			}
		}
	}
}

// P1: rules and paths of many names end soon.
func TestIgnoredEndsSoon(t *testing.T) {
	deep := strings.Repeat("a/", 1<<16)
	for _, c := range []struct {
		text, path string
		want       bool
	}{
		{"**/b\nb\n/a/b\n**/b/**\nb/\n", deep, false},
		{"**/b\n", deep + "b", true},
		{strings.Repeat("**/", 1<<10) + "b", strings.Repeat("a/", 1<<10), false},
		{strings.Repeat("**/", 1<<20) + "b", "a/a/a", false},
		{strings.Repeat("**/a/", 1<<8) + "b", strings.Repeat("a/", 1<<10), false},
		{strings.Repeat("**/a/", 1<<8) + "b", strings.Repeat("a/", 1<<10) + "b", true},
		{strings.Repeat("a/", 1<<16) + "b", deep, false},
		{strings.Repeat("a/", 1<<16) + "b", deep + "b", true},
		{strings.Repeat("a\n", 1<<20), "b/c", false},
		{strings.Repeat("a\n", 1<<20), "b/a", true},
		{strings.Repeat("*", api.MaxPattern-1) + "b", strings.Repeat("a", 1<<16), false},
		{"a/", strings.Repeat("/", api.MaxBytes) + "a", false},
	} {
		r := rulesOf(t, c.text)
		soon(t, "Ignored", func() {
			if r.Ignored(c.path, false) != c.want {
				t.Errorf("%.20q of %.20q: not %v", c.text, c.path, c.want)
			}
		})
	}
}

// P2: what rules answer does not hang on other rules, nor on the paths asked ahead.
func TestRulesStandAlone(t *testing.T) {
	texts := []string{"a\n!b", "**/b\n/a/", "*\n!a/**", "", "a/**/b"}
	paths := somePaths([]string{"a", "b"}, 3)
	var read []*Rules
	for _, text := range texts {
		read = append(read, rulesOf(t, text))
	}
	ask := func(p string) (answers []bool) {
		for _, r := range read {
			answers = append(answers, r.Ignored(p, false), r.Ignored(p, true))
		}
		return answers
	}
	var first [][]bool
	for _, p := range paths {
		first = append(first, ask(p))
	}
	for i := len(paths) - 1; i >= 0; i-- {
		if again := ask(paths[i]); !slices.Equal(first[i], again) {
			t.Errorf("%q: %v, then %v", paths[i], first[i], again)
		}
	}
}
