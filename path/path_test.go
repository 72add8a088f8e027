package path

import (
	"errors"
	"math"
	"regexp"
	"selvage/api"
	"slices"
	"strings"
	"testing"
)

// smallTexts are all texts of at most so many of these bytes.
func smallTexts(alphabet string, most int) []string {
	all := []string{""}
	for from := 0; most > 0; most-- {
		longest := all[from:]
		from = len(all)
		for _, s := range longest {
			for i := range len(alphabet) {
				all = append(all, s+alphabet[i:i+1])
			}
		}
	}
	return all
}

// smallLists are all lists of at most so many of these texts.
func smallLists(texts []string, most int) [][]string {
	all := [][]string{nil}
	for from := 0; most > 0; most-- {
		longest := all[from:]
		from = len(all)
		for _, l := range longest {
			for _, s := range texts {
				all = append(all, append(slices.Clone(l), s))
			}
		}
	}
	return all
}

// everyByte is a text with each byte once.
func everyByte() string {
	b := make([]byte, 256)
	for i := range b {
		b[i] = byte(i)
	}
	return string(b)
}

// letters is a text of so many letters.
func letters(n int) string {
	return strings.Repeat("n", n)
}

// listOf is so many names, so long that their path has just so many bytes.
func listOf(size, depth int) []string {
	bytes := size - (depth - 1)
	l := make([]string, depth)
	for i := range l {
		l[i] = letters((bytes + i) / depth)
	}
	return l
}

// pathOf is a path of just so many bytes and names.
func pathOf(size, depth int) string {
	return strings.Join(listOf(size, depth), "/")
}

// deep is a path of so many names of one byte.
func deep(depth int) string {
	return pathOf(2*depth-1, depth)
}

// texts are short ones and those at the limits, of any form.
func texts() []string {
	return append(smallTexts("/.a\x00", 5),
		everyByte(), "a/b/c/d/e/f", "../../etc/passwd", "\xff/\xc3\xa4", "a b/c\nd/\t", "...", "a/...", "..a/b..", "a\\b", ".selvage-1",
		letters(api.MaxName), letters(api.MaxName+1), "a/"+letters(api.MaxName), "a/"+letters(api.MaxName+1)+"/b", letters(api.MaxPath), letters(api.MaxPath+1),
		deep(api.MaxDepth), deep(api.MaxDepth+1), deep(api.MaxDepth)+"/", "/"+deep(api.MaxDepth), deep(api.MaxDepth+1)+"/..", deep(api.MaxDepth+1)+"/"+letters(api.MaxName+1),
		pathOf(api.MaxPath, 17), pathOf(api.MaxPath+1, 17), pathOf(api.MaxPath, api.MaxDepth), pathOf(api.MaxPath, api.MaxDepth+1), pathOf(api.MaxPath+1, api.MaxDepth),
		strings.Repeat("/", api.MaxPath), strings.Repeat("/", api.MaxPath+1), strings.Repeat("./", api.MaxPath/2), strings.Repeat("../", 70), strings.Repeat("a/", api.MaxPath),
		strings.Repeat("a/../", 100)+"a", strings.Repeat("/", 1<<18), "a"+strings.Repeat("/", 1<<18)+"b",
	)
}

// paths are some of the file system.
func paths() []string {
	var all []string
	for _, l := range smallLists([]string{"a", "b", "..."}, 4) {
		all = append(all, strings.Join(l, "/"))
	}
	return append(all, "a/c/d", "ab", "ab/c", "x/a/b", "a b", "\xff", "a\nb", ".a", "a.", letters(api.MaxName), deep(api.MaxDepth-1), deep(api.MaxDepth),
		"x/"+deep(api.MaxDepth-1), deep(api.MaxDepth-1)+"/x", pathOf(api.MaxPath, 17), pathOf(api.MaxPath, api.MaxDepth), "x/"+pathOf(api.MaxPath-2, 30))
}

// isName asks by the chapter's words, byte by byte.
func isName(s string) bool {
	for _, c := range []byte(s) {
		if c == '/' || c == 0 {
			return false
		}
	}
	return 1 <= len(s) && len(s) <= 255 && s != "." && s != ".."
}

// pieces are the texts between the slashes, of the empty text one.
func pieces(s string) []string {
	l := []string{""}
	for i := range len(s) {
		if s[i] == '/' {
			l = append(l, "")
		} else {
			l[len(l)-1] += s[i : i+1]
		}
	}
	return l
}

// PA1: each byte in a name.
func TestNameOfEachByte(t *testing.T) {
	for c := range 256 {
		b := byte(c)
		var want error
		if c == 0 || c == '/' {
			want = api.ErrName
		}
		for _, s := range []string{string([]byte{'a', b}), string([]byte{b, 'a'}), string([]byte{'a', b, 'c'}), string([]byte{'.', b, '.'})} {
			if err := Name(s); err != want {
				t.Errorf("Name(%q): %v", s, err)
			}
		}
		if c == '.' {
			want = api.ErrName
		}
		if err := Name(string([]byte{b})); err != want {
			t.Errorf("Name(%q): %v", string([]byte{b}), err)
		}
	}
}

// PA1: Name.
func TestName(t *testing.T) {
	for _, s := range []string{"a", "a.b", "...", "..a", "a..", ".a", " ", "\n", "\xff", "\\", "a b", letters(255), letters(254) + ".", strings.Repeat(".", 255)} {
		if err := Name(s); err != nil {
			t.Errorf("Name(%q): %v", s, err)
		}
	}
	for _, s := range []string{"", ".", "..", "/", "a/", "/a", "a/b", "\x00", "a\x00", "\x00a", letters(256), letters(255) + "/", strings.Repeat(".", 256), letters(api.MaxBytes)} {
		if err := Name(s); err != api.ErrName {
			t.Errorf("Name(%.20q): %v", s, err)
		}
	}
	for _, s := range texts() {
		if err := Name(s); (err == nil) != isName(s) {
			t.Errorf("Name(%.20q): %v", s, err)
		}
	}
}

// partsCase is what Parts is to answer of a path.
type partsCase struct {
	p    string
	want []string
	err  error
}

func (c partsCase) check(t *testing.T) {
	t.Helper()
	l, err := Parts(c.p)
	if !slices.Equal(l, c.want) || err != c.err {
		t.Errorf("Parts(%.40q) = %.40q, %v, not %.40q, %v", c.p, l, err, c.want, c.err)
	}
}

// PA1: the chapter's examples, and which error is told where two could be.
func TestParts(t *testing.T) {
	long := letters(api.MaxName + 1)
	for _, c := range []partsCase{
		{"a/b", []string{"a", "b"}, nil},
		{"a//b", nil, api.ErrName},
		{"/a", nil, api.ErrName},
		{"", nil, nil},
		{"a", []string{"a"}, nil},
		{"a/b/c", []string{"a", "b", "c"}, nil},
		{"a/a/a", []string{"a", "a", "a"}, nil},
		{".../ b/\xff", []string{"...", " b", "\xff"}, nil},
		{"a/", nil, api.ErrName},
		{"/", nil, api.ErrName},
		{"//", nil, api.ErrName},
		{".", nil, api.ErrName},
		{"..", nil, api.ErrName},
		{"a/./b", nil, api.ErrName},
		{"a/../b", nil, api.ErrName},
		{"a/b/..", nil, api.ErrName},
		{"a\x00", nil, api.ErrName},
		{"b/a\x00b", nil, api.ErrName},
		{letters(api.MaxName), []string{letters(api.MaxName)}, nil},
		{"a/" + letters(api.MaxName) + "/b", []string{"a", letters(api.MaxName), "b"}, nil},
		{long, nil, api.ErrName},
		{"a/" + long + "/b", nil, api.ErrName},
		{deep(api.MaxDepth), listOf(127, 64), nil},
		{deep(api.MaxDepth + 1), nil, api.ErrLong},
		{pathOf(api.MaxPath, 17), listOf(4096, 17), nil},
		{pathOf(api.MaxPath, 64), listOf(4096, 64), nil},
		{pathOf(api.MaxPath+1, 17), nil, api.ErrLong},
		{pathOf(api.MaxPath+1, 64), nil, api.ErrLong},
		{pathOf(api.MaxPath, 65), nil, api.ErrLong},
		// Too many bytes are told ahead of what is no name, that ahead of too many names.
		{letters(api.MaxPath + 1), nil, api.ErrLong},
		{letters(api.MaxPath), nil, api.ErrName},
		{strings.Repeat("/", api.MaxPath+1), nil, api.ErrLong},
		{strings.Repeat("/", api.MaxPath), nil, api.ErrName},
		{deep(api.MaxDepth) + "/", nil, api.ErrName},
		{deep(api.MaxDepth+1) + "/..", nil, api.ErrName},
		{"/" + deep(api.MaxDepth+1), nil, api.ErrName},
		{strings.Repeat("a/", 2047) + "a", nil, api.ErrLong},
		{strings.Repeat("a/", 2048), nil, api.ErrName},
	} {
		c.check(t)
	}
}

// PA1: Parts of many texts, by the rule's words.
func TestPartsOfManyTexts(t *testing.T) {
	for _, p := range append(texts(), paths()...) {
		c := partsCase{p: p}
		if len(p) > 4096 {
			c.err = api.ErrLong
		} else if p != "" {
			c = named(p, pieces(p))
		}
		c.check(t)
	}
}

// named is what Parts is to answer where the bytes are few enough.
func named(p string, l []string) partsCase {
	for _, s := range l {
		if !isName(s) {
			return partsCase{p, nil, api.ErrName}
		}
	}
	if len(l) > 64 {
		return partsCase{p, nil, api.ErrLong}
	}
	return partsCase{p, l, nil}
}

// PA1: Join.
func TestJoin(t *testing.T) {
	for _, c := range []struct {
		parts []string
		want  string
		err   error
	}{
		{nil, "", nil},
		{[]string{}, "", nil},
		{[]string{"a"}, "a", nil},
		{[]string{"a", "b"}, "a/b", nil},
		{[]string{"a", "a", "..."}, "a/a/...", nil},
		{[]string{""}, "", api.ErrName},
		{[]string{"a", ""}, "", api.ErrName},
		{[]string{"", "a"}, "", api.ErrName},
		{[]string{"."}, "", api.ErrName},
		{[]string{"a", ".."}, "", api.ErrName},
		{[]string{"a/b"}, "", api.ErrName},
		{[]string{"a", "/"}, "", api.ErrName},
		{[]string{"a\x00"}, "", api.ErrName},
		{[]string{letters(255), "b"}, letters(255) + "/b", nil},
		{[]string{letters(256), "b"}, "", api.ErrName},
		{listOf(127, 64), deep(64), nil},
		{listOf(129, 65), "", api.ErrLong},
		{listOf(4096, 17), pathOf(4096, 17), nil},
		{listOf(4097, 17), "", api.ErrLong},
		{listOf(4096, 64), pathOf(4096, 64), nil},
		{listOf(4097, 64), "", api.ErrLong},
		{slices.Repeat([]string{letters(255)}, 16), strings.Repeat(letters(255)+"/", 15) + letters(255), nil},
		{slices.Repeat([]string{letters(255)}, 17), "", api.ErrLong},
		// What is no name is told ahead of what is too long.
		{append(listOf(129, 65), ""), "", api.ErrName},
		{append(listOf(4097, 17), ".."), "", api.ErrName},
		{append([]string{letters(256)}, listOf(4096, 65)...), "", api.ErrName},
		{slices.Repeat([]string{"a"}, 1<<20), "", api.ErrLong},
		{slices.Repeat([]string{""}, 1<<20), "", api.ErrName},
	} {
		if s, err := Join(c.parts); s != c.want || err != c.err {
			t.Errorf("Join(%.40q) = %.40q, %v, not %.40q, %v", c.parts, s, err, c.want, c.err)
		}
	}
}

// PA1: Join of all short lists of names and others.
func TestJoinOfManyLists(t *testing.T) {
	for _, l := range smallLists([]string{"a", "b.", "", ".", "..", "a/b", "\x00"}, 4) {
		var want string
		var wrong error
		for i, s := range l {
			if !isName(s) {
				want, wrong = "", api.ErrName
				break
			}
			if i > 0 {
				want += "/"
			}
			want += s
		}
		if s, err := Join(l); s != want || err != wrong {
			t.Errorf("Join(%q) = %q, %v", l, s, err)
		}
	}
}

// PA2: Dir and Base.
func TestDirAndBase(t *testing.T) {
	for _, c := range [][3]string{
		{"", "", ""},
		{"a", "", "a"},
		{"a/b", "a", "b"},
		{"a/b/c", "a/b", "c"},
		{"/", "", ""},
		{"//", "/", ""},
		{"/a", "", "a"},
		{"//a", "/", "a"},
		{"a/", "a", ""},
		{"a//", "a/", ""},
		{"a//b", "a/", "b"},
		{".", "", "."},
		{"..", "", ".."},
		{"../..", "..", ".."},
		{"a/.", "a", "."},
		{"\x00/\x00", "\x00", "\x00"},
		{letters(300) + "/" + letters(400), letters(300), letters(400)},
	} {
		if d, b := Dir(c[0]), Base(c[0]); d != c[1] || b != c[2] {
			t.Errorf("Dir(%.20q) = %.20q, Base %.20q", c[0], d, b)
		}
	}
	form := regexp.MustCompile(`(?s)^(?:(.*)/)?([^/]*)$`)
	for _, s := range texts() {
		m := form.FindStringSubmatch(s)
		if d, b := Dir(s), Base(s); d != m[1] || b != m[2] {
			t.Errorf("Dir(%.20q) = %.20q, Base %.20q", s, d, b)
		}
	}
}

// stripCase is what Strip is to answer.
type stripCase struct {
	name string
	n    int
	want string
	err  error
}

func (c stripCase) check(t *testing.T) {
	t.Helper()
	s, err := Strip(c.name, c.n)
	if s != c.want || err != c.err {
		t.Errorf("Strip(%.40q, %d) = %.40q, %v, not %.40q, %v", c.name, c.n, s, err, c.want, c.err)
	}
}

// PA3: the chapter's examples, and more.
func TestStrip(t *testing.T) {
	for _, c := range []stripCase{
		{"a/b/c", 1, "b/c", nil},
		{"/a/b", 1, "a/b", nil},
		{"a//b", 1, "b", nil},
		{"a/b", 2, "", api.ErrFew},
		{"a/b/", -1, "b", nil},
		{"a/", 1, "", api.ErrFew},
		{"a/b/c", 0, "a/b/c", nil},
		{"a/b/c", 2, "c", nil},
		{"a/b/c", 3, "", api.ErrFew},
		{"a/b/c", 4, "", api.ErrFew},
		{"/a/b", 0, "/a/b", nil},
		{"/a/b", 2, "b", nil},
		{"/a/b", 3, "", api.ErrFew},
		{"//a/b", 0, "//a/b", nil},
		{"//a/b", 1, "a/b", nil},
		{"///a///b", 2, "b", nil},
		{"a//b//c", 1, "b//c", nil},
		{"a/b//", 1, "b//", nil},
		{"a/b//", 2, "", api.ErrFew},
		{"a", 0, "a", nil},
		{"a", 1, "", api.ErrFew},
		{"a/", 0, "a/", nil},
		{"a/", 2, "", api.ErrFew},
		{"/", 0, "/", nil},
		{"/", 1, "", api.ErrFew},
		{"//", 1, "", api.ErrFew},
		{"/", 2, "", api.ErrFew},
		{"", 0, "", api.ErrFew},
		{"", 1, "", api.ErrFew},
		{"../../a", 1, "../a", nil},
		{"./a", 1, "a", nil},
		{"a/../b", 1, "../b", nil},
		{"a\x00/b\x00", 1, "b\x00", nil},
		{"a/b\nc", 1, "b\nc", nil},
		{deep(300), 299, "n", nil},
		{deep(300), 300, "", api.ErrFew},
		{"a/" + letters(api.MaxPath), 1, letters(api.MaxPath), nil},
		{"a/b", math.MaxInt, "", api.ErrFew},
		{strings.Repeat("a/", 1<<20) + "b", 1 << 20, "b", nil},
		{strings.Repeat("a/", 1<<20) + "b", math.MaxInt, "", api.ErrFew},
		{"a" + strings.Repeat("/", 1<<20) + "b", 1, "b", nil},
	} {
		c.check(t)
	}
}

// PA3: with -1 the last name alone is left.
func TestStripOfAllDirectories(t *testing.T) {
	for _, c := range [][2]string{
		{"a", "a"}, {"a/b", "b"}, {"/a", "a"}, {"a/b/", "b"}, {"a/b//", "b"}, {"a//b", "b"}, {"//b", "b"}, {"a/", "a"}, {"/a/", "a"},
		{".", "."}, {"a/..", ".."}, {"a/../", ".."}, {"\x00", "\x00"}, {"a/b c/", "b c"}, {"x/" + letters(5000), letters(5000)},
		{"a/b" + strings.Repeat("/", 1<<20), "b"},
	} {
		stripCase{c[0], -1, c[1], nil}.check(t)
	}
	for _, s := range []string{"", "/", "//", strings.Repeat("/", api.MaxPath+1)} {
		stripCase{s, -1, "", api.ErrFew}.check(t)
	}
}

// PA3: a wrong number is told ahead of all else.
func TestStripOfWrongNumbers(t *testing.T) {
	for _, n := range []int{-2, -3, -100, math.MinInt32, math.MinInt} {
		for _, s := range []string{"a/b", "", "/", "a"} {
			stripCase{s, n, "", api.ErrArg}.check(t)
		}
	}
}

// stripped is what the rule's words say, by the pieces of the name where runs of slashes count as one.
func stripped(name string, n int) stripCase {
	few := stripCase{name, n, "", api.ErrFew}
	if n == -1 {
		l := regexp.MustCompile(`[^/]+`).FindAllString(name, -1)
		if len(l) == 0 {
			return few
		}
		return stripCase{name, n, l[len(l)-1], nil}
	}
	off := regexp.MustCompile(`(?s)^[^/]*/+`)
	left := name
	for range n {
		at := off.FindStringIndex(left)
		if at == nil {
			return few
		}
		left = left[at[1]:]
	}
	if left == "" {
		return few
	}
	return stripCase{name, n, left, nil}
}

// PA3: Strip of many texts.
func TestStripOfManyTexts(t *testing.T) {
	for _, s := range texts() {
		for n := -1; n <= 5; n++ {
			stripped(s, n).check(t)
		}
	}
}

// PA4: the chapter's examples, and which error is told where two could be.
func TestSafe(t *testing.T) {
	for _, c := range []struct {
		name, want string
		err        error
	}{
		{"./a//b", "a/b", nil},
		{"a/../b", "", api.ErrSafe},
		{"/a", "", api.ErrSafe},
		{"", "", api.ErrSafe},
		{".", "", api.ErrName},
		{"a", "a", nil},
		{"a/b", "a/b", nil},
		{"a/", "a", nil},
		{"a//", "a", nil},
		{"a/./", "a", nil},
		{"a/.", "a", nil},
		{"././a/././b/.", "a/b", nil},
		{"a///b", "a/b", nil},
		{".../a", ".../a", nil},
		{"..a/b..", "..a/b..", nil},
		{"./", "", api.ErrName},
		{"./.", "", api.ErrName},
		{".//", "", api.ErrName},
		{"/", "", api.ErrSafe},
		{"//", "", api.ErrSafe},
		{"//a", "", api.ErrSafe},
		{"/.", "", api.ErrSafe},
		{"..", "", api.ErrSafe},
		{"../a", "", api.ErrSafe},
		{"a/..", "", api.ErrSafe},
		{"./..", "", api.ErrSafe},
		{"a/b/../..", "", api.ErrSafe},
		{"../", "", api.ErrSafe},
		{"a//..//b", "", api.ErrSafe},
		{"a\x00", "", api.ErrName},
		{"a/\x00/..", "", api.ErrSafe},
		{letters(255), letters(255), nil},
		{letters(256), "", api.ErrName},
		{letters(256) + "/..", "", api.ErrSafe},
		{deep(64), deep(64), nil},
		{deep(65), "", api.ErrLong},
		{"./" + deep(64) + "//", deep(64), nil},
		{strings.Repeat("./", 70) + "a", "a", nil},
		{deep(65) + "/..", "", api.ErrSafe},
		{deep(65) + "/\x00", "", api.ErrName},
		{pathOf(4096, 17), pathOf(4096, 17), nil},
		{pathOf(4097, 17), "", api.ErrLong},
		{"./" + pathOf(4096, 17) + "/", pathOf(4096, 17), nil},
		{pathOf(4097, 17) + "/" + letters(256), "", api.ErrName},
		{"a" + strings.Repeat("/", 5000) + "b", "a/b", nil},
		{strings.Repeat("./", 1<<20), "", api.ErrName},
	} {
		if s, err := Safe(c.name); s != c.want || err != c.err {
			t.Errorf("Safe(%.40q) = %.40q, %v, not %.40q, %v", c.name, s, err, c.want, c.err)
		}
	}
}

// safe is what the rule's words say.
func safe(name string) (string, error) {
	if !regexp.MustCompile(`(?s)^[^/]`).MatchString(name) || regexp.MustCompile(`(^|/)\.\.($|/)`).MatchString(name) {
		return "", api.ErrSafe
	}
	var l []string
	for _, s := range pieces(name) {
		if s != "" && s != "." {
			l = append(l, s)
		}
	}
	if len(l) == 0 {
		return "", api.ErrName
	}
	return Join(l)
}

// PA4: Safe of many texts.
func TestSafeOfManyTexts(t *testing.T) {
	for _, name := range texts() {
		want, wrong := safe(name)
		if s, err := Safe(name); s != want || err != wrong {
			t.Errorf("Safe(%.40q) = %.40q, %v, not %.40q, %v", name, s, err, want, wrong)
		}
	}
}

// PA5: Below.
func TestBelow(t *testing.T) {
	for _, c := range []struct {
		dir, p string
		want   bool
	}{
		{"a", "a/b", true},
		{"a", "a", true},
		{"a", "ab", false},
		{"a", "a/", true},
		{"a", "a/b/c", true},
		{"a/b", "a/b/c", true},
		{"a/b", "a/b", true},
		{"a/b", "a", false},
		{"a/b", "a/bc", false},
		{"a", "b/a", false},
		{"a", "", false},
		{"a", "/a", false},
		{"a/", "a", false},
		{"a/", "a/", true},
		{"a/", "a/b", false},
		{"a/", "a//b", true},
		{"", "", true},
		{"", "a", true},
		{"", "/", true},
		{"", "/a/b", true},
		{"", "..", true},
		{"", "\x00", true},
		{"/", "/", true},
		{"/", "/a", false},
		{"/", "//", true},
		{".", "./a", true},
		{".", "a", false},
		{"..", "../a", true},
		{"..", "...", false},
		{"\x00", "\x00/a", true},
		{"\x00", "\x00\x00", false},
		{letters(5000), letters(5000) + "/a", true},
		{letters(5000), letters(5001), false},
		{"b", "a/b", false},
		{"b", "a/", false},
	} {
		if got := Below(c.dir, c.p); got != c.want {
			t.Errorf("Below(%.20q, %.20q) = %v", c.dir, c.p, got)
		}
	}
}

// PA5: Below of all pairs of short texts.
func TestBelowOfManyTexts(t *testing.T) {
	short := smallTexts("/ab", 4)
	for _, dir := range short {
		for _, p := range short {
			want := dir == "" || (p + "/")[:min(len(dir)+1, len(p)+1)] == dir+"/"
			if got := Below(dir, p); got != want {
				t.Errorf("Below(%q, %q) = %v", dir, p, got)
			}
		}
	}
}

// PA6: the parts of what Join answers, and the path of what Parts answers.
func TestPartsThereAndBack(t *testing.T) {
	lists := append(smallLists([]string{"a", "b", "...", "", "..", "a/b"}, 4), listOf(4096, 17), listOf(4096, 64), listOf(4097, 64), listOf(127, 64), listOf(129, 65))
	for _, l := range lists {
		p, err := Join(l)
		if err != nil {
			continue
		}
		if back, err := Parts(p); !slices.Equal(back, l) || err != nil {
			t.Errorf("Parts(%.40q) = %.40q, %v, not %.40q", p, back, err, l)
		}
	}
	for _, p := range append(texts(), paths()...) {
		l, err := Parts(p)
		if err != nil {
			continue
		}
		if back, err := Join(l); back != p || err != nil {
			t.Errorf("Join(%.40q) = %.40q, %v", l, back, err)
		}
	}
}

// PA6: what Safe answers.
func TestSafeOfWhatIsSafe(t *testing.T) {
	for _, name := range append(texts(), paths()...) {
		s, err := Safe(name)
		if err != nil {
			continue
		}
		l, err := Parts(s)
		if err != nil || len(l) == 0 || slices.Contains(l, "..") {
			t.Errorf("Safe(%.40q) = %.40q: parts %.40q, %v", name, s, l, err)
		}
		if again, err := Safe(s); again != s || err != nil {
			t.Errorf("Safe(%.40q) = %.40q, %v", s, again, err)
		}
		if !Below("", s) || strings.HasPrefix(s, "/") {
			t.Errorf("Safe(%.40q) = %.40q is not below the root", name, s)
		}
	}
	for _, p := range paths() {
		if s, err := Safe(p); p != "" && (s != p || err != nil) {
			t.Errorf("Safe(%.40q) = %.40q, %v", p, s, err)
		}
	}
}

// PA6: none stripped, and one stripped twice.
func TestStripOfWhatIsStripped(t *testing.T) {
	for _, name := range append(texts(), paths()...) {
		if s, err := Strip(name, 0); name != "" && (s != name || err != nil) {
			t.Errorf("Strip(%.40q, 0) = %.40q, %v", name, s, err)
		}
		twice, err := Strip(name, 1)
		if err == nil {
			twice, err = Strip(twice, 1)
		}
		stripCase{name, 2, twice, err}.check(t)
	}
}

// pathCase is what Rel or Go is to answer.
type pathCase struct {
	from, to string
	want     string
	err      error
}

func (c pathCase) check(t *testing.T, call func(from, to string) (string, error)) {
	t.Helper()
	s, err := call(c.from, c.to)
	if s != c.want || err != c.err {
		t.Errorf("from %.40q, %.40q: %.40q, %v, not %.40q, %v", c.from, c.to, s, err, c.want, c.err)
	}
}

// PA7: Rel, and which error is told where two could be.
func TestRel(t *testing.T) {
	for _, c := range []pathCase{
		{"a/b", "a/c/d", "../c/d", nil},
		{"a", "a", ".", nil},
		{"", "", ".", nil},
		{"a/b/c", "a/b/c", ".", nil},
		{"", "a", "a", nil},
		{"", "a/b", "a/b", nil},
		{"a", "", "..", nil},
		{"a/b", "", "../..", nil},
		{"a", "a/b", "b", nil},
		{"a/b", "a", "..", nil},
		{"a", "b", "../b", nil},
		{"a", "ab", "../ab", nil},
		{"ab", "a", "../a", nil},
		{"a/b", "c/b", "../../c/b", nil},
		{"a/x/b", "a/y/b", "../../y/b", nil},
		{"a/a", "a/a/a", "a", nil},
		{"a/b", "...", "../../...", nil},
		{deep(64), "", strings.Repeat("../", 63) + "..", nil},
		{deep(64), "x/" + deep(63), strings.Repeat("../", 64) + "x/" + deep(63), nil},
		{"x/" + deep(63), pathOf(4096, 64), strings.Repeat("../", 64) + pathOf(4096, 64), nil},
		{pathOf(4096, 17), pathOf(4096, 17), ".", nil},
		{"/a", "a", "", api.ErrName},
		{"a", "/a", "", api.ErrName},
		{"a", "..", "", api.ErrName},
		{".", "a", "", api.ErrName},
		{"a//b", "a", "", api.ErrName},
		{"a", "a/", "", api.ErrName},
		{"a", deep(65), "", api.ErrLong},
		{deep(65), "a", "", api.ErrLong},
		{pathOf(4097, 17), "a", "", api.ErrLong},
		{"a", pathOf(4097, 17), "", api.ErrLong},
		{"a", letters(256), "", api.ErrName},
		// What is wrong with the first is told ahead of what is wrong with the second.
		{deep(65), "/", "", api.ErrLong},
		{"/", deep(65), "", api.ErrName},
		{"\x00", letters(5000), "", api.ErrName},
		{letters(5000), "\x00", "", api.ErrLong},
	} {
		c.check(t, Rel)
	}
}

// rel is the way by the rule's words, on lists.
func rel(from, to []string) string {
	for len(from) > 0 && len(to) > 0 && from[0] == to[0] {
		from, to = from[1:], to[1:]
	}
	way := strings.TrimSuffix(strings.Repeat("../", len(from))+strings.Join(to, "/"), "/")
	if way == "" {
		return "."
	}
	return way
}

// PA7: Rel of many pairs of paths.
func TestRelOfManyPaths(t *testing.T) {
	for _, from := range paths() {
		for _, to := range paths() {
			a, err := Parts(from)
			if err != nil {
				t.Fatal(err)
			}
			b, err := Parts(to)
			if err != nil {
				t.Fatal(err)
			}
			pathCase{from, to, rel(a, b), nil}.check(t, Rel)
		}
	}
}

// PA7: Go, and which error is told where two could be.
func TestGo(t *testing.T) {
	for _, c := range []pathCase{
		{"a/b", "../c", "a/c", nil},
		{"a", "../..", "", api.ErrSafe},
		{"a", "", "a", nil},
		{"", "", "", nil},
		{"", ".", "", nil},
		{"a", ".", "a", nil},
		{"a", "./", "a", nil},
		{"a", "b", "a/b", nil},
		{"a", "b/", "a/b", nil},
		{"a", "b//c", "a/b/c", nil},
		{"a", "./b/./c/.", "a/b/c", nil},
		{"", "a/b", "a/b", nil},
		{"a", "..", "", nil},
		{"a", "../", "", nil},
		{"a", "../b", "b", nil},
		{"a/b/c", "../../d", "a/d", nil},
		{"a", "b/..", "a", nil},
		{"a", "b/../../c", "c", nil},
		{"a", "...", "a/...", nil},
		{"", "..", "", api.ErrSafe},
		{"", "../a", "", api.ErrSafe},
		{"", "a/../..", "", api.ErrSafe},
		{"", "./..", "", api.ErrSafe},
		{"a", "../../a", "", api.ErrSafe},
		{"a", "/", "", api.ErrSafe},
		{"a", "/b", "", api.ErrSafe},
		{"a", "//b", "", api.ErrSafe},
		{"a", "b\x00", "", api.ErrName},
		{"a", "\x00/..", "", api.ErrName},
		{"a", letters(255), "a/" + letters(255), nil},
		{"a", letters(256), "", api.ErrName},
		{"a", letters(256) + "/..", "", api.ErrName},
		{"/a", "b", "", api.ErrName},
		{"a/", "b", "", api.ErrName},
		{"..", "b", "", api.ErrName},
		{deep(65), "..", "", api.ErrLong},
		{pathOf(4097, 17), "..", "", api.ErrLong},
		{deep(63), "x", deep(63) + "/x", nil},
		{deep(64), "x", "", api.ErrLong},
		{deep(64), "../x", deep(63) + "/x", nil},
		// On the way the path may be too long, in the end not.
		{deep(64), "x/..", deep(64), nil},
		{deep(64), "x/y/z/../../..", deep(64), nil},
		{pathOf(4096, 17), "x/..", pathOf(4096, 17), nil},
		{pathOf(4096, 17), "x", "", api.ErrLong},
		{pathOf(4094, 17), "x", pathOf(4094, 17) + "/x", nil},
		{pathOf(4095, 17), "x", "", api.ErrLong},
		{"", pathOf(4096, 17), pathOf(4096, 17), nil},
		{"", deep(65), "", api.ErrLong},
		{"", deep(65) + "/..", deep(64), nil},
		// The length of the way.
		{"a", strings.Repeat("/", 4096), "", api.ErrSafe},
		{"a", strings.Repeat("/", 4097), "", api.ErrLong},
		{"a", strings.Repeat("./", 2048), "a", nil},
		{"a", strings.Repeat("./", 2048) + ".", "", api.ErrLong},
		{"a", "b" + strings.Repeat("/", 4095), "a/b", nil},
		{"a", "b" + strings.Repeat("/", 4096), "", api.ErrLong},
		{"a", letters(4096), "", api.ErrName},
		{"a", letters(4097), "", api.ErrLong},
		{"", strings.Repeat("../", 2000), "", api.ErrLong},
		// The error of from first, then the way's length, then its beginning, then its pieces in order.
		{"/a", strings.Repeat("/", 4097), "", api.ErrName},
		{deep(65), "/", "", api.ErrLong},
		{"a/", "/", "", api.ErrName},
		{"", "/\x00/..", "", api.ErrSafe},
		{"", "\x00/../..", "", api.ErrName},
		{"", "../\x00", "", api.ErrSafe},
		{deep(64), "x/\x00", "", api.ErrName},
		{deep(64), "x" + strings.Repeat("/..", 66), "", api.ErrSafe},
	} {
		c.check(t, Go)
	}
}

// lead is the path to which the pieces lead, by the rule's words, on texts.
func lead(from, way string) (string, error) {
	if strings.HasPrefix(way, "/") {
		return "", api.ErrSafe
	}
	for _, s := range pieces(way) {
		switch {
		case s == "" || s == ".":
		case s == ".." && from == "":
			return "", api.ErrSafe
		case s == "..":
			from = Dir(from)
		case !isName(s):
			return "", api.ErrName
		case from == "":
			from = s
		default:
			from += "/" + s
		}
	}
	return from, nil
}

// PA7: Go by many ways.
func TestGoByManyWays(t *testing.T) {
	for _, from := range []string{"", "a", "b/a", "...", "a/b/c/d"} {
		for _, way := range append(smallTexts("/.a\x00", 6), "../../../../../a", "../../../..", "../../../../", "a/../b/../..", "../../x/y") {
			want, wrong := lead(from, way)
			pathCase{from, way, want, wrong}.check(t, Go)
		}
	}
	for _, from := range []string{"/", "a//b", "..", "\x00", "a/."} {
		for _, way := range smallTexts("/.a", 3) {
			pathCase{from, way, "", api.ErrName}.check(t, Go)
		}
	}
}

// PA8: Go by what Rel answers, between all pairs of paths.
func TestGoByRel(t *testing.T) {
	for _, from := range paths() {
		for _, to := range paths() {
			way, err := Rel(from, to)
			if err != nil {
				t.Fatalf("Rel(%.40q, %.40q): %v", from, to, err)
			}
			steps := pieces(way)
			climbs := slices.IndexFunc(steps, func(s string) bool { return s != ".." })
			if climbs >= 0 && slices.Contains(steps[climbs:], "..") {
				t.Errorf("Rel(%.40q, %.40q) = %.40q climbs behind a name", from, to, way)
			}
			if len(way) > 4096 {
				pathCase{from, way, "", api.ErrLong}.check(t, Go)
				continue
			}
			pathCase{from, way, to, nil}.check(t, Go)
		}
	}
}

// PA8: the longest way that Go takes, and one of a byte more.
func TestGoByTheLongestRel(t *testing.T) {
	for _, depth := range []int{1, 10, 64} {
		from := "x" + strings.Repeat("/y", depth-1)
		for size, want := range map[int]error{4095 - 3*depth: nil, 4096 - 3*depth: nil, 4097 - 3*depth: api.ErrLong, 4096: api.ErrLong} {
			to := pathOf(size, 40)
			way, err := Rel(from, to)
			if len(way) != size+3*depth || err != nil {
				t.Fatalf("Rel of %d bytes, not %d: %v", len(way), size+3*depth, err)
			}
			if want != nil {
				to = ""
			}
			pathCase{from, way, to, want}.check(t, Go)
		}
	}
}

// P1: nothing panics, errors are api's, and beside one nothing is answered.
func TestNothingPanics(t *testing.T) {
	isErrno := func(what, arg string, err error) {
		t.Helper()
		var e api.Errno
		if err != nil && !errors.As(err, &e) {
			t.Errorf("%s(%.40q): %v is no api.Errno", what, arg, err)
		}
	}
	empty := func(what, arg, answer string, err error) {
		t.Helper()
		isErrno(what, arg, err)
		if err != nil && answer != "" {
			t.Errorf("%s(%.40q) = %.40q beside %v", what, arg, answer, err)
		}
	}
	for _, s := range texts() {
		isErrno("Name", s, Name(s))
		l, err := Parts(s)
		isErrno("Parts", s, err)
		if err != nil && len(l) > 0 {
			t.Errorf("Parts(%.40q) = %.40q beside %v", s, l, err)
		}
		answer, err := Join([]string{s, s})
		empty("Join", s, answer, err)
		for _, n := range []int{math.MinInt, -2, -1, 0, 1, 2, math.MaxInt} {
			answer, err = Strip(s, n)
			empty("Strip", s, answer, err)
		}
		answer, err = Safe(s)
		empty("Safe", s, answer, err)
		for _, other := range []string{"", "a", "/", "..", s} {
			Below(s, other)
			Below(other, s)
			for _, call := range []func(from, to string) (string, error){Rel, Go} {
				answer, err = call(s, other)
				empty("from", s, answer, err)
				answer, err = call(other, s)
				empty("to", s, answer, err)
			}
		}
	}
}

// P2: the parts that are answered are new memory, each time, spare room too.
func TestPartsAreNew(t *testing.T) {
	for _, p := range append(paths(), "a/b/c") {
		l, err := Parts(p)
		if err != nil {
			t.Fatal(err)
		}
		kept := slices.Clone(l)
		other, _ := Parts(p)
		all := other[:cap(other)]
		for i := range all {
			all[i] = "changed"
		}
		again, _ := Parts(p)
		if !slices.Equal(l, kept) || !slices.Equal(again, kept) {
			t.Errorf("Parts(%.40q) = %.40q, then %.40q", p, l, again)
		}
	}
}

// P2: the list that is handed in stays as it is, behind its length too, and is not kept.
func TestListsStay(t *testing.T) {
	for _, l := range smallLists([]string{"a", "b", "", ".."}, 3) {
		room := append(slices.Clone(l), "behind", "it")
		kept := slices.Clone(room)
		want, wrong := Join(slices.Clone(l))
		got, err := Join(room[:len(l)])
		if !slices.Equal(room, kept) || got != want || err != wrong {
			t.Errorf("Join(%q) = %q, %v, and the list is %q", l, got, err, room)
		}
		for i := range room {
			room[i] = "changed"
		}
		if got != want {
			t.Errorf("Join(%q) is %q once the list has changed", l, got)
		}
	}
}

// P2: what a call answers does not hang on the calls ahead of it.
func TestCallsStandAlone(t *testing.T) {
	ask := func() (answers []string) {
		for _, s := range append(smallTexts("/.a", 3), deep(64), deep(65), letters(256)) {
			strip, err := Strip(s, 1)
			safe, wrong := Safe(s)
			rel, no := Rel("a/b", s)
			to, none := Go("a/b", s)
			answers = append(answers, strip, safe, rel, to, Dir(s), Base(s))
			for _, e := range []error{err, wrong, no, none, Name(s)} {
				if e != nil {
					answers = append(answers, e.Error())
				}
			}
		}
		return answers
	}
	if first, second := ask(), ask(); !slices.Equal(first, second) {
		t.Error("the same calls answer otherwise the second time")
	}
}
