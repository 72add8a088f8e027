package glob

import (
	"slices"
	"strings"
	"testing"
)

const (
	uppers = "ABCDEFGHIJKLMNOPQRSTUVWXYZ"
	lowers = "abcdefghijklmnopqrstuvwxyz"
	digits = "0123456789"
	puncts = "!\"#$%&'()*+,-./:;<=>?@[\\]^_`{|}~"
)

// classBytes are the bytes of each class, written out by the chapter.
func classBytes() map[string]string {
	return map[string]string{
		"alpha":  uppers + lowers,
		"digit":  digits,
		"alnum":  uppers + lowers + digits,
		"upper":  uppers,
		"lower":  lowers,
		"xdigit": digits + "abcdefABCDEF",
		"space":  "\t\n\v\f\r ",
		"blank":  "\t ",
		"punct":  puncts,
		"print":  " " + puncts + uppers + lowers + digits,
		"graph":  puncts + uppers + lowers + digits,
		"cntrl":  bytesFrom(0, 31) + "\x7f",
	}
}

// has holds that a set, as a pattern, means just these bytes: of all names of one byte, and none of another length.
func has(t *testing.T, pattern, want string) {
	t.Helper()
	g := compiled(t, pattern)
	for _, c := range each(everyByte()) {
		if is := strings.Contains(want, c); g.Match(c) != is {
			t.Errorf("%q of %q: not %v", pattern, c, is)
		}
		if g.Match(c + c) {
			t.Errorf("%q means two bytes, %q", pattern, c+c)
		}
	}
	if g.Match("") {
		t.Errorf("%q means the empty name", pattern)
	}
}

// G1, G2: sets, and the edges of the section 'The pattern'.
func TestSets(t *testing.T) {
	for pattern, want := range map[string]string{
		// a closing bracket as the first item
		"[]]": "]", "[]a]": "]a", "[!]]": not("]"), "[^]]": not("]"), "[!]a]": not("]a"), "[^]a]": not("]a"), "[]-a]": "]^_`a", "[!]-a]": not("]^_`a"), "[^]-a]": not("]^_`a"), "[]-]": "]-", "[!]-]": not("]-"), "[][:digit:]]": "]" + digits, "[]!]": "]!",
		// a dash as the first item, as the last one, behind a class, behind a range, and one that begins a range
		"[-]": "-", "[-a]": "-a", "[a-]": "a-", "[!-]": not("-"), "[^-]": not("-"), "[!-a]": not("-a"), "[!a-]": not("a-"), "[--]": "-", "[---]": "-", "[----]": "-", "[-a-]": "-a",
		"[[:digit:]-]": digits + "-", "[[:digit:]-x]": digits + "-x", "[[:digit:]--x]": digits + bytesFrom('-', 'x'), "[[:digit:]-[:upper:]]": digits + "-" + uppers, "[[:digit:]--]": digits + "-", "[![:digit:]-x]": not(digits + "-x"),
		"[a-c-]": "abc-", "[a-c-e]": "abc-e", "[a-c--e]": "abc" + bytesFrom('-', 'e'), "[a-c-e-g]": "abc-efg", "[a-c--]": "abc-", "[a-c---]": "abc-", "[a-cx-z]": "abcxyz", "[a-ce]": "abce",
		"[--x]": bytesFrom('-', 'x'), "[!--x]": not(bytesFrom('-', 'x')), "[+--]": "+,-", "[--/]": "-./", "[--a-c]": bytesFrom('-', 'a') + "-c", "[a--]": "", "[!a--]": not(""), "[ -~]": bytesFrom(' ', '~'),
		"[a-[:digit:]]": "a-" + digits, "[--[:digit:]]": "-" + digits, "[a-c-[:digit:]]": "abc-" + digits,
		// ranges: of one byte, none, to brackets and marks
		"[a-a]": "a", "[b-a]": "", "[!b-a]": not(""), "[^b-a]": not(""), "[xb-ay]": "xy", "[a-[]": "", "[A-[]": uppers + "[", "[A-[x]": uppers + "[x", "[[-a]": bytesFrom('[', 'a'), "[!-a-c]": not("-abc"), "[ -!]": " !", "[A-^]": bytesFrom('A', '^'), "[*-?]": bytesFrom('*', '?'), "[\x00-\xff]": everyByte(), "[\xfe-\xff]": "\xfe\xff", "[\xff-\xff]": "\xff", "[\xff-\x00]": "", "[!\x00-\xff]": "", "[\x00-\x01]": "\x00\x01", "[\x7f-\x80]": "\x7f\x80", "[?-\x80]": bytesFrom('?', 0x80), "[\x00]": "\x00", "[!\x00]": not("\x00"), "[\xff]": "\xff", "[\xc3\xa4]": "\xc3\xa4",
		// backslashes
		`[\]]`: "]", `[\a]`: "a", `[\\]`: `\`, `[\-]`: "-", `[a\-z]`: "a-z", `[\a-\c]`: "abc", `[a-\c]`: "abc", `[\a-c]`: "abc", `[a-\]]`: "", `[A-\]]`: bytesFrom('A', ']'), `[\]-a]`: "]^_`a", `[!\]]`: not("]"), `[^\]]`: not("]"), `[\!]`: "!", `[\^a]`: "^a", `[\!a]`: "!a", `[a\]b]`: "a]b", `[\--\-]`: "-", `[\--x]`: bytesFrom('-', 'x'), `[+-\-]`: "+,-", `[a-\-]`: "", `[\\-a]`: bytesFrom('\\', 'a'), `[A-\\]`: bytesFrom('A', '\\'), `[\n]`: "n", "[\\\n]": "\n", "[\\\x00]": "\x00", "[\\\xff]": "\xff", `[a-c\-e]`: "abc-e", `[]\]]`: "]", `[[:digit:]\-x]`: digits + "-x",
		// brackets and colons that begin no class
		"[[]": "[", "[[a]": "[a", "[a[]": "a[", "[![]": not("["), "[[[]": "[", "[:]": ":", "[:alpha:]": ":alph", "[a:]": "a:", `[\[:]`: "[:", `[\[:alpha:]`: "[:alph", "[[.a.]": "[.a", "[[=a=]": "[=a", `[[\:]`: "[:", `[a-\[:]`: ":", `[A-\[:]`: uppers + "[:",
		// marks that turn a set round stand for themselves elsewhere
		"[!!]": not("!"), "[^^]": not("^"), "[!^]": not("^"), "[^!]": not("!"), "[a!]": "a!", "[a^]": "a^", "[!a!]": not("a!"),
		// bytes that are special outside
		"[*]": "*", "[?]": "?", "[*?]": "*?", "[/]": "/", "[.]": ".", "[a/]": "a/", "[#]": "#", "[ ]": " ",
		// the chapter's examples
		"[a-c]": "abc", "[!a-c]": not("abc"), "[[:digit:]x]": digits + "x", "[^[:alpha:]]": not(uppers + lowers),
		"[aaa]": "a", "[a-ca-c]": "abc", "[a-cb-d]": "abcd",
	} {
		has(t, pattern, want)
	}
}

// G1: a closing bracket ends a set at once, what stands behind it is no more of it.
func TestSetsEnd(t *testing.T) {
	means(t, "[a-]-z]", []string{"a-z]", "--z]"}, []string{"a", "b", "z", "-"})
	means(t, "[]]]", []string{"]]"}, []string{"]", "]]]"})
	means(t, "[a]]", []string{"a]"}, []string{"a", "]"})
	means(t, "[[]]", []string{"[]"}, []string{"[", "]"})
	means(t, "[!]]]", []string{"a]"}, []string{"]]", "a"})
	means(t, "[a][b]", []string{"ab"}, []string{"a", "b", "ba"})
	means(t, "[[:digit:]]]", []string{"7]"}, []string{"7", "]"})
	means(t, "[:alpha:]]", []string{"a]", ":]"}, []string{"b]", "a"})
	means(t, `[a-\[:alpha:]]`, []string{"l]", ":]"}, []string{"b]", "[]", "l"})
	means(t, "[a]*[!b]?", []string{"axy", "aXbcd", "aab"}, []string{"ab", "abb", "bxy"})
	means(t, "x[!a]y", []string{"xby", "x/y", "x.y", "x\x00y"}, []string{"xay", "xy", "xbby"})
}

// G1, G2: each class has its bytes, of 256, and no other.
func TestClasses(t *testing.T) {
	all := classBytes()
	for name, bytes := range all {
		has(t, "[[:"+name+":]]", bytes)
		has(t, "[![:"+name+":]]", not(bytes))
		has(t, "[^[:"+name+":]]", not(bytes))
		has(t, "[[:"+name+":]\x80-\x82]", bytes+"\x80\x81\x82")
		for other, more := range all {
			has(t, "[[:"+name+":][:"+other+":]]", bytes+more)
		}
	}
}

// refSet reads a set by the chapter's words, from behind its bracket on: the bytes it has, and what stands behind it. It takes the items apart first, and looks for ranges then.
func refSet(text string) (has, rest string, ok bool) {
	turned := text != "" && strings.Contains("!^", text[:1])
	if turned {
		text = text[1:]
	}
	var items []refItem
	for len(items) == 0 || text != "" && text[0] != ']' {
		item, length := refFirst(text)
		if length == 0 {
			return "", "", false
		}
		items = append(items, item)
		text = text[length:]
	}
	if text == "" {
		return "", "", false
	}
	bytes := refRanges(items)
	if turned {
		bytes = not(bytes)
	}
	return bytes, text[1:], true
}

// refItem is a class, or a byte.
type refItem struct {
	has   string // the bytes of a class, or the one
	class bool
	dash  bool // it is a dash without a backslash
}

// refFirst is the first item of a text and its length; of none, 0.
func refFirst(text string) (refItem, int) {
	if strings.HasPrefix(text, "[:") {
		end := strings.Index(text, ":]")
		if end < 2 {
			return refItem{}, 0
		}
		bytes, known := classBytes()[text[2:end]]
		if !known {
			return refItem{}, 0
		}
		return refItem{has: bytes, class: true}, end + 2
	}
	if strings.HasPrefix(text, `\`) {
		if len(text) < 2 {
			return refItem{}, 0
		}
		return refItem{has: text[1:2]}, 2
	}
	if text == "" {
		return refItem{}, 0
	}
	return refItem{has: text[:1], dash: text[0] == '-'}, 1
}

// refRanges are the bytes of items, among which dashes may make ranges.
func refRanges(items []refItem) string {
	var b strings.Builder
	for len(items) > 0 {
		if len(items) >= 3 && !items[0].class && items[1].dash && !items[2].class {
			if low, high := items[0].has[0], items[2].has[0]; low <= high {
				b.WriteString(bytesFrom(low, high))
			}
			items = items[3:]
			continue
		}
		b.WriteString(items[0].has)
		items = items[1:]
	}
	return b.String()
}

// G1, G2: all short sets against the reference.
func TestSmallSets(t *testing.T) {
	names := append(each("-:[]^!ac5\\\x00\x7f\xff"), "", "a]", "]]", "-]", "aa")
	for _, s := range smallTexts([]string{"[", "]", "!", "-", `\`, ":", "a", "c", "[:digit:]"}, 5) {
		agree(t, "["+s, names)
	}
	for _, s := range smallTexts([]string{"]", "^", "-", `\`, "a", "[:", ":]", "digit"}, 5) {
		agree(t, "[["+s, names)
	}
}

// G5: of a set and the same set turned round just one means a byte.
func TestSetsTurned(t *testing.T) {
	sets := smallTexts([]string{"]", "-", `\`, "a", "c", "[", "[:digit:]"}, 4)
	for _, s := range sets {
		g, err := Compile("[" + s + "]")
		for _, mark := range []string{"!", "^"} {
			h, wrong := Compile("[" + mark + s + "]")
			if (err == nil) != (wrong == nil) {
				t.Errorf("[%s]: %v, but [%s%s]: %v", s, err, mark, s, wrong)
			}
			if err != nil || wrong != nil || len(g.parts) != 1 {
				continue
			}
			both := slices.DeleteFunc(each(everyByte()), func(c string) bool { return g.Match(c) != h.Match(c) })
			if len(both) > 0 {
				t.Errorf("[%s] and [%s%s] answer the same of %q", s, mark, s, both)
			}
		}
	}
}
