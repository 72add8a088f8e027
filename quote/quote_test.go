package quote

import (
	"errors"
	"fmt"
	"regexp"
	"selvage/api"
	"strconv"
	"strings"
	"testing"
)

// smallTexts are all texts of at most so many of these bytes.
func smallTexts(alphabet string, most int) []string {
	all := []string{""}
	for from := 0; most > 0; most-- {
		longest := all[from:]
		from = len(all)
		for _, s := range longest {
			for i := range len(alphabet) {
				all = append(all, s+alphabet[i:i+1])
			}
		}
	}
	return all
}

// everyByte is a text with each byte once.
func everyByte() string {
	b := make([]byte, 256)
	for i := range b {
		b[i] = byte(i)
	}
	return string(b)
}

// names are all of at most two bytes, and longer ones.
func names() []string {
	return append(smallTexts(everyByte(), 2),
		"a/b.c", "a b", "\u00e4", "a\tb\"\\", "b\\", "\\\"", "\\n", "\\101", "\"a\"", "\"\"", " a", "a ", "a\nb", "--- a", "\\\\\\",
		"x\x001", "x\x0017", "\x7f7", "\xc3\xa4", "\u2028", "../../etc", "/", ".selvage-1",
		everyByte(), strings.Repeat("x", api.MaxName), strings.Repeat("\xff", api.MaxName), strings.Repeat("\"", api.MaxName),
		strings.Repeat("\n", api.MaxBytes+1), strings.Repeat("x", api.MaxBytes+1),
	)
}

// needs asks by Q1's words, byte by byte.
func needs(name string) bool {
	for _, c := range []byte(name) {
		if c < 33 || c == 34 || c == 92 || c >= 127 {
			return true
		}
	}
	return len(name) == 0
}

// Q1: every single byte as a name.
func TestNeedsOfEachByte(t *testing.T) {
	for c := range 256 {
		want := c < 33 || c == 34 || c == 92 || c >= 127
		for _, name := range []string{string([]byte{byte(c)}), string([]byte{'a', byte(c)}), string([]byte{byte(c), 'a'}), string([]byte{'a', byte(c), 'b'})} {
			if got := Needs(name); got != want {
				t.Errorf("Needs(%q) = %v", name, got)
			}
		}
	}
}

// Q1: Needs.
func TestNeeds(t *testing.T) {
	for name, want := range map[string]bool{
		"": true, "a": false, "a/b.c": false, "a b": true, "!": false, "~": false, " ": true, "\x7f": true, "\x80": true, "\xff": true,
		"a'b": false, "#[]": false, "a\"": true, "a\\": true, "\u00e4": true, "\x00": true, "\x1f": true, "-": false, "a,b;c:d": false,
	} {
		if got := Needs(name); got != want {
			t.Errorf("Needs(%q) = %v", name, got)
		}
	}
	for _, name := range names() {
		if got, want := Needs(name), needs(name); got != want {
			t.Errorf("Needs(%.20q) = %v, not %v", name, got, want)
		}
	}
}

// inTable is what Q2's table says of a byte.
func inTable(c byte) string {
	switch c {
	case 7:
		return `\a`
	case 8:
		return `\b`
	case 9:
		return `\t`
	case 10:
		return `\n`
	case 11:
		return `\v`
	case 12:
		return `\f`
	case 13:
		return `\r`
	case 34:
		return `\"`
	case 92:
		return `\\`
	}
	if c < 32 || c >= 127 {
		return fmt.Sprintf(`\%03o`, c)
	}
	return string([]byte{c})
}

// quoted is a name by Q2's words.
func quoted(name string) string {
	if !needs(name) {
		return name
	}
	var b strings.Builder
	for _, c := range []byte(name) {
		b.WriteString(inTable(c))
	}
	return `"` + b.String() + `"`
}

// Q2: the chapter's examples, and others.
func TestQuote(t *testing.T) {
	for _, c := range [][2]string{
		{"a/b.c", `a/b.c`},
		{"a b", `"a b"`},
		{"\xc3\xa4", `"\303\244"`},
		{"", `""`},
		{" ", `" "`},
		{"\a\b\t\n\v\f\r\"\\", `"\a\b\t\n\v\f\r\"\\"`},
		{"\x00", `"\000"`},
		{"\x001", `"\0001"`},
		{"\x06", `"\006"`},
		{"\x0e", `"\016"`},
		{"\x1b", `"\033"`},
		{"\x1f", `"\037"`},
		{"\x7f", `"\177"`},
		{"\x80", `"\200"`},
		{"\xff", `"\377"`},
		{"~!", `~!`},
		{"a'b", `a'b`},
		{"a'b c", `"a'b c"`},
		{`"a"`, `"\"a\""`},
		{`\n`, `"\\n"`},
		{"\u2028", `"\342\200\250"`},
	} {
		if got := Quote(c[0]); got != c[1] {
			t.Errorf("Quote(%q) = %s, not %s", c[0], got, c[1])
		}
	}
}

// Q2: every name of at most two bytes, and longer ones, by the table.
func TestQuoteByTheTable(t *testing.T) {
	for _, name := range names() {
		if got, want := Quote(name), quoted(name); got != want {
			t.Errorf("Quote(%.20q) = %.40s, not %.40s", name, got, want)
		}
	}
}

// reading is what Unquote is to answer of a text.
type reading struct {
	text, name, rest string
	err              error
}

// check tells of an Unquote that answers something else.
func check(t *testing.T, c reading) {
	t.Helper()
	name, rest, err := Unquote(c.text)
	if name != c.name || rest != c.rest || !errors.Is(err, c.err) {
		t.Errorf("Unquote(%.40q) = %.40q, %.40q, %v, not %.40q, %.40q, %v", c.text, name, rest, err, c.name, c.rest, c.err)
	}
}

// Q3: names that are not quoted.
func TestUnquoteOfPlainNames(t *testing.T) {
	for _, c := range []reading{
		{"", "", "", nil},
		{"a", "a", "", nil},
		{"a b\tt", "a b", "\tt", nil},
		{"a b\nt", "a b", "\nt", nil},
		{"a\t\n", "a", "\t\n", nil},
		{"a\n\t", "a", "\n\t", nil},
		{"\t", "", "\t", nil},
		{"\n", "", "\n", nil},
		{"\ta", "", "\ta", nil},
		{"\n\"a\"", "", "\n\"a\"", nil},
		{" \"a\"", " \"a\"", "", nil},
		{"a\"b", "a\"b", "", nil},
		{"a\\tb\tc", "a\\tb", "\tc", nil},
		{"\\\"", "\\\"", "", nil},
		{"a\v\f\r b", "a\v\f\r b", "", nil},
		{"\x00\xff\t", "\x00\xff", "\t", nil},
		{"\u0109\u010a\n", "\u0109\u010a", "\n", nil},
	} {
		check(t, c)
	}
}

// Q3: quoted names, with whatever behind them.
func TestUnquoteOfQuotedNames(t *testing.T) {
	for _, c := range []reading{
		{`""`, "", "", nil},
		{`"a"`, "a", "", nil},
		{`"a\tb" x`, "a\tb", " x", nil},
		{"\"a\"\tx", "a", "\tx", nil},
		{"\"a\"\nx", "a", "\nx", nil},
		{`"a"b`, "a", "b", nil},
		{`"a""b"`, "a", `"b"`, nil},
		{`"a"\`, "a", `\`, nil},
		{`"""`, "", `"`, nil},
		{`"\"" "`, `"`, ` "`, nil},
		{`"\\""`, `\`, `"`, nil},
		{`"\\\""`, `\"`, "", nil},
		{`"\a\b\t\n\v\f\r\"\\"`, "\a\b\t\n\v\f\r\"\\", "", nil},
		{"\"a\tb\"", "a\tb", "", nil},
		{"\" ~\x00\r\x7f\xff\"", " ~\x00\r\x7f\xff", "", nil},
		{`"\000"`, "\x00", "", nil},
		{`"\0000"`, "\x000", "", nil},
		{`"\377"`, "\xff", "", nil},
		{`"\3777"`, "\xff7", "", nil},
		{`"\101\102"`, "AB", "", nil},
		{`"\012"`, "\n", "", nil},
		{`"\042"`, `"`, "", nil},
		{`"\134n"`, `\n`, "", nil},
		{`"\303\244"`, "\u00e4", "", nil},
	} {
		check(t, c)
	}
}

// Q3: texts that begin with a quote and have not its form.
func TestUnquoteOfWrongTexts(t *testing.T) {
	for _, text := range []string{
		`"`, `"a`, `"a\"`, `"a\\\"`, `"\`, `"a\`, "\"a\n\"", "\"\n", "\"a\nb\"c\"", "\"\\\n\"", "\"\\\"\n\"",
		`"\q"`, `"\A"`, `"\x41"`, `"\'"`, `"\?"`, `"\e"`, `"\ "`, "\"\\\t\"", "\"\\\x00\"", "\"\\\xff\"", `"\/"`, `"\8"`, `"\9"`, `"\-"`,
		`"\400"`, `"\477"`, `"\777"`, `"\800"`, `"\12"`, `"\1"`, `"\0"`, `"\12`, `"\1`, `"\0`, `"\123`, `"\377`, `"\1a2"`, `"\12a"`, `"\128"`, `"\182"`, `"\081"`,
		`"\ 12"`, `"\1 2"`, `"\12 "`, `"\/12"`, `"\1/2"`, `"\12/"`, `"\:12"`, "\"\\12\n\"", "\"\\1\n2\"", `"ok\q"`, `"ok\tno\4"`, "\"\\12\xb0\"", "\"\\\xb012\"",
		"\"" + strings.Repeat("x", api.MaxBytes),
	} {
		check(t, reading{text, "", "", api.ErrQuote})
	}
}

// Q3: each byte within quotes, behind a backslash, at each place of an octal number, and as a whole octal number.
func TestUnquoteOfEachByte(t *testing.T) {
	escapes := map[byte]byte{'a': 7, 'b': 8, 't': 9, 'n': 10, 'v': 11, 'f': 12, 'r': 13, '"': 34, '\\': 92}
	for i := range 256 {
		c := byte(i)
		s := string([]byte{c})
		if c != 10 && c != 34 && c != 92 {
			check(t, reading{`"` + s + `"r`, s, "r", nil})
			check(t, reading{`"x` + s + `y"`, "x" + s + "y", "", nil})
		}
		if e, ok := escapes[c]; ok {
			check(t, reading{`"\` + s + `"r`, string([]byte{e}), "r", nil})
		} else {
			check(t, reading{`"\` + s + `"r`, "", "", api.ErrQuote})
		}
		check(t, reading{fmt.Sprintf(`"\%03o"r`, c), s, "r", nil})
		for place := range 3 {
			digits := []byte("123")
			digits[place] = c
			n, err := strconv.ParseUint(string(digits), 8, 8)
			// A letter in the first place is another escape, with two digits behind it.
			if e, ok := escapes[c]; ok && place == 0 {
				check(t, reading{`"\` + string(digits) + `"r`, string([]byte{e}) + "23", "r", nil})
			} else if err == nil {
				check(t, reading{`"\` + string(digits) + `"r`, string([]byte{byte(n)}), "r", nil})
			} else {
				check(t, reading{`"\` + string(digits) + `"r`, "", "", api.ErrQuote})
			}
		}
	}
}

// byForm reads a text by Q3's form, written as regular expressions.
func byForm(t *testing.T, text string) reading {
	if !strings.HasPrefix(text, `"`) {
		name := plainForm.FindString(text)
		return reading{text, name, text[len(name):], nil}
	}
	whole := quotedForm.FindString(text)
	if whole == "" {
		return reading{text, "", "", api.ErrQuote}
	}
	name, err := strconv.Unquote(whole)
	if err != nil {
		t.Fatalf("%s: %v", whole, err)
	}
	return reading{text, name, text[len(whole):], nil}
}

var (
	plainForm  = regexp.MustCompile(`^[^\t\n]*`)
	quotedForm = regexp.MustCompile(`^"([^"\\\n]|\\[abtnvfr"\\]|\\[0-3][0-7][0-7])*"`)
)

// texts are all small ones of bytes that count in Q3, and quoted ones among them.
func texts() []string {
	all := smallTexts("\"\\\n\ta0", 6)
	for _, s := range smallTexts("\"\\0347q\n", 5) {
		all = append(all, `"`+s, `"`+s+`"`, `"\`+s+`"`)
	}
	return all
}

// Q3 and Q5: Unquote of many texts.
func TestUnquoteOfManyTexts(t *testing.T) {
	for _, text := range texts() {
		check(t, byForm(t, text))
		name, rest, err := Unquote(text)
		if err != nil {
			continue
		}
		if !strings.HasSuffix(text, rest) || len(name) > len(text)-len(rest) {
			t.Fatalf("Unquote(%q) = %q, %q", text, name, rest)
		}
		check(t, reading{Quote(name), name, "", nil})
	}
}

// Q4 and P10: any name comes back, whatever rest is behind it that may be.
func TestNamesThereAndBack(t *testing.T) {
	for _, name := range names() {
		q := Quote(name)
		for _, rest := range []string{"", "\t", "\n", "\t2026-11-16", "\n+++ b\n", "\t\"", "\n\\"} {
			check(t, reading{q + rest, name, rest, nil})
		}
		if !strings.HasPrefix(q, `"`) {
			continue
		}
		for _, rest := range []string{" ", "a", `"`, `\`, `\"`, `""`, "0", "\x00", "\xff", " b\tc\n"} {
			check(t, reading{q + rest, name, rest, nil})
		}
	}
}

// Q4: with each byte behind the closing quote.
func TestEachByteBehindAQuotedName(t *testing.T) {
	for c := range 256 {
		rest := string([]byte{byte(c), 'x'})
		for _, name := range []string{"", "a b", "\\", "\"", "\xff"} {
			check(t, reading{Quote(name) + rest, name, rest, nil})
		}
	}
}

// Q4: two names are quoted unlike; what bytes a quoted name has, and how many.
func TestQuotedNames(t *testing.T) {
	seen := map[string]string{}
	for _, name := range names() {
		q := Quote(name)
		if other, ok := seen[q]; ok && other != name {
			t.Fatalf("%q and %q are both quoted as %s", name, other, q)
		}
		seen[q] = name
		if len(q) > 4*len(name)+2 {
			t.Errorf("Quote(%.20q) has %d bytes of %d", name, len(q), len(name))
		}
		for i := range len(q) {
			if q[i] < 32 || q[i] > 126 {
				t.Fatalf("Quote(%.20q) has the byte %d", name, q[i])
			}
		}
	}
}

// P1: an error is an api.Errno, and nothing else is answered with it, nor with any text a panic.
func TestNothingPanics(t *testing.T) {
	long := strings.Repeat("\\", api.MaxBytes+1)
	for _, text := range append(smallTexts(everyByte(), 2), long, `"`+long, `"`+long+`"`, strings.Repeat(`"`, api.MaxBytes)) {
		for _, s := range []string{text, `"` + text, `"\` + text, `"\1` + text, `"\12` + text} {
			name, rest, err := Unquote(s)
			var number api.Errno
			if err != nil && (!errors.As(err, &number) || number != api.ErrQuote || name != "" || rest != "") {
				t.Fatalf("Unquote(%.20q) = %.20q, %.20q, %v", s, name, rest, err)
			}
		}
		Needs(text)
		Quote(text)
	}
}

// P2: the same call answers the same, whatever was asked in between.
func TestCallsStandAlone(t *testing.T) {
	for _, name := range names() {
		first := Quote(name)
		Quote("a b")
		Unquote(`"\q`)
		Unquote(`"x y" z`)
		if again := Quote(name); again != first {
			t.Fatalf("Quote(%.20q) = %.20s, then %.20s", name, first, again)
		}
	}
}
