package inode

import (
	"errors"
	"fmt"
	"selvage/api"
	"strings"
	"testing"
)

// system is a file system, built or by the words.
type system interface {
	Make(path string) error
	Create(path string) error
	Append(path, text string) error
	Link(target, path string) error
	Rename(from, to string) error
	Remove(path string) error
	Look(path string) (api.Entry, error)
	Read(path string) (string, error)
	List(path string) ([]string, error)
	Tree(path string) ([]api.Entry, error)
	Used() (int, int)
}

// number is an error's number, 0 without one, -1 where it has none.
func number(err error) int {
	if err == nil {
		return 0
	}
	var n api.Errno
	if errors.As(err, &n) {
		return int(n)
	}
	return -1
}

// is fails where an error is another one than it should be; 0 is none.
func is(t *testing.T, what string, err error, want api.Errno) {
	t.Helper()
	if number(err) != int(want) {
		t.Errorf("%s: error %d, not %d", what, number(err), want)
	}
}

// short is an entry as a word: a directory as name/, a file as name=bytes, a link as name>target.
func short(e api.Entry) string {
	switch e.Kind {
	case api.KindDir:
		return e.Path + "/"
	case api.KindFile:
		return e.Path + "=" + e.Text
	case api.KindLink:
		return e.Path + ">" + e.Text
	}
	return e.Path + "?"
}

// told is all that stands in a file system, as words, without the root, and what is used.
func told(s system) string {
	l, err := s.Tree("")
	if err != nil || len(l) == 0 || l[0] != (api.Entry{Kind: api.KindDir}) {
		return fmt.Sprint("no root: ", l, err)
	}
	text := ""
	for _, e := range l[1:] {
		text += short(e) + " "
	}
	bytes, nodes := s.Used()
	return text + fmt.Sprint(bytes, " ", nodes)
}

// holds fails where a file system has something else, or uses something else, than told says.
func holds(t *testing.T, s system, want string) {
	t.Helper()
	if got := told(s); got != want {
		t.Errorf("there is %s, not %s", got, want)
	}
}

// with is an empty file system with this room.
func with(t *testing.T, bytes, nodes int) *Table {
	t.Helper()
	d, err := New(bytes, nodes)
	if err != nil || d == nil {
		t.Fatalf("New(%d, %d): %v", bytes, nodes, err)
	}
	return d
}

// pathOf is a path of so many names that has just so many bytes.
func pathOf(bytes, depth int) string {
	letters := bytes - (depth - 1)
	names := make([]string, depth)
	for i := range names {
		names[i] = strings.Repeat("n", (letters+i)/depth)
	}
	return strings.Join(names, "/")
}

// deep is a path of so many names of one byte.
func deep(depth int) string {
	return pathOf(2*depth-1, depth)
}

// makeAll makes a directory at a path, and all those above it that are not there.
func makeAll(t *testing.T, s system, p string) {
	t.Helper()
	for i := range len(p) + 1 {
		if i < len(p) && p[i] != '/' {
			continue
		}
		if err := s.Make(p[:i]); err != nil && number(err) != int(api.ErrExist) {
			t.Fatalf("Make %.40q: %v", p[:i], err)
		}
	}
}

// enter makes what a word of told tells.
func enter(s system, word string) error {
	if dir, ok := strings.CutSuffix(word, "/"); ok {
		return s.Make(dir)
	}
	if p, text, ok := strings.Cut(word, "="); ok {
		if err := s.Create(p); err != nil {
			return err
		}
		return s.Append(p, text)
	}
	p, target, _ := strings.Cut(word, ">")
	return s.Link(target, p)
}

// fill makes what the words of told tell, in their order.
func fill(t *testing.T, s system, words string) {
	t.Helper()
	for _, word := range strings.Fields(words) {
		if err := enter(s, word); err != nil {
			t.Fatal(word, err)
		}
	}
}

// of is a file system that has what the words of told tell, and room enough.
func of(t *testing.T, words string) *Table {
	t.Helper()
	d := with(t, api.MaxNumber, api.MaxNodes)
	fill(t, d, words)
	return d
}

// some has each kind of thing, in a directory and in the root.
const (
	some     = "a/ a/b/ a/b/f=hi a/e/ a/g=old a/l>b e/ f=text l>a"
	someUsed = some + " 11 9"
)

// the calls that change something, with one path.
var changes = []struct {
	name string
	do   func(s system, p string) error
}{
	{"Make", func(s system, p string) error { return s.Make(p) }},
	{"Create", func(s system, p string) error { return s.Create(p) }},
	{"Append", func(s system, p string) error { return s.Append(p, "x") }},
	{"Append nothing", func(s system, p string) error { return s.Append(p, "") }},
	{"Link", func(s system, p string) error { return s.Link("t", p) }},
	{"Remove", func(s system, p string) error { return s.Remove(p) }},
	{"Rename from", func(s system, p string) error { return s.Rename(p, "z") }},
	{"Rename to", func(s system, p string) error { return s.Rename("f", p) }},
}

// and those that ask; what they answer beside an error must be nothing.
var asks = []struct {
	name string
	do   func(s system, p string) error
}{
	{"Look", func(s system, p string) error {
		e, err := s.Look(p)
		return nothing(err, e == api.Entry{})
	}},
	{"Read", func(s system, p string) error {
		text, err := s.Read(p)
		return nothing(err, text == "")
	}},
	{"List", func(s system, p string) error {
		l, err := s.List(p)
		return nothing(err, len(l) == 0)
	}},
	{"Tree", func(s system, p string) error {
		l, err := s.Tree(p)
		return nothing(err, len(l) == 0)
	}},
}

// nothing is an error that stands beside nothing else, or another one that no call answers.
func nothing(err error, empty bool) error {
	if err != nil && !empty {
		return fmt.Errorf("something stands beside the error %d", number(err))
	}
	return err
}

// every call with a path fails so at these paths, and changes nothing.
func everyCallFails(t *testing.T, d *Table, want api.Errno, paths ...string) {
	t.Helper()
	was := told(d)
	for _, p := range paths {
		for _, c := range append(changes[:len(changes):len(changes)], asks...) {
			is(t, fmt.Sprintf("%s %.40q", c.name, p), c.do(d, p), want)
		}
	}
	holds(t, d, was)
}

// I1: New takes rooms from 0 to the limits, and answers nil beside an error; what it makes has the root alone.
func TestNew(t *testing.T) {
	for _, c := range []struct {
		bytes, nodes int
		want         api.Errno
	}{
		{0, 0, 0}, {1, 1, 0}, {0, api.MaxNodes, 0}, {api.MaxNumber, 0, 0}, {api.MaxNumber, api.MaxNodes, 0},
		{-1, 0, api.ErrArg}, {0, -1, api.ErrArg}, {-1, -1, api.ErrArg}, {-1 << 63, 5, api.ErrArg}, {5, -1 << 63, api.ErrArg},
		{api.MaxNumber + 1, 0, api.ErrArg}, {0, api.MaxNodes + 1, api.ErrArg}, {1<<63 - 1, 1<<63 - 1, api.ErrArg}, {api.MaxNumber + 1, -1, api.ErrArg},
	} {
		d, err := New(c.bytes, c.nodes)
		is(t, fmt.Sprint("New ", c.bytes, c.nodes), err, c.want)
		if (d == nil) != (err != nil) {
			t.Error(c, d, err)
		}
		if d != nil {
			holds(t, d, "0 0")
		}
	}
}

// I1: the room is as New was told, for bytes and for nodes each.
func TestRoomIsAsTold(t *testing.T) {
	for _, bytes := range []int{0, 1, 2, 5} {
		for _, nodes := range []int{0, 1, 2, 5} {
			d := with(t, bytes, nodes)
			made := 0
			for d.Make(fmt.Sprint("d", made)) == nil {
				made++
			}
			if made != nodes {
				t.Errorf("room for %d nodes, not %d", made, nodes)
			}
			d = with(t, bytes, nodes)
			written := 0
			for d.Create("f") == nil && d.Append("f", strings.Repeat("x", written+1)) == nil {
				written++
			}
			if nodes > 0 && written != bytes {
				t.Errorf("room for %d bytes, not %d", written, bytes)
			}
		}
	}
}

// I2: a directory comes where nothing stands, and there is room for a node.
func TestMake(t *testing.T) {
	d := of(t, some)
	for _, p := range []string{"", "a", "a/b", "a/e", "f", "a/b/f", "l", "a/l"} {
		is(t, "Make "+p, d.Make(p), api.ErrExist)
	}
	holds(t, d, someUsed)
	is(t, "Make", d.Make("a/c"), 0)
	is(t, "Make", d.Make("a/c/\xff \n"), 0)
	holds(t, d, "a/ a/b/ a/b/f=hi a/c/ a/c/\xff \n/ a/e/ a/g=old a/l>b e/ f=text l>a 11 11")
	d = with(t, 0, 2)
	is(t, "Make", d.Make("a"), 0)
	is(t, "Make", d.Make("a/b"), 0)
	is(t, "Make without room", d.Make("c"), api.ErrQuota)
	is(t, "Make without room", d.Make("a/b/c"), api.ErrQuota)
	is(t, "Make of what is there, without room", d.Make("a/b"), api.ErrExist)
	is(t, "Make of the root, without room", d.Make(""), api.ErrExist)
	is(t, "Make where the way is not clear, without room", d.Make("q/x"), api.ErrNone)
	is(t, "Make of no path, without room", d.Make("a//x"), api.ErrName)
	holds(t, d, "a/ a/b/ 0 2")
}

// I3: an empty file comes where nothing stands; a file that stands there is emptied, and its bytes are free again.
func TestCreate(t *testing.T) {
	d := of(t, some)
	for _, p := range []string{"", "a", "a/b", "a/e", "e"} {
		is(t, "Create "+p, d.Create(p), api.ErrDir)
	}
	for _, p := range []string{"l", "a/l"} {
		is(t, "Create "+p, d.Create(p), api.ErrLink)
	}
	holds(t, d, someUsed)
	is(t, "Create", d.Create("a/b/f"), 0)
	is(t, "Create", d.Create("f"), 0)
	is(t, "Create", d.Create("f"), 0)
	is(t, "Create", d.Create("e/new"), 0)
	holds(t, d, "a/ a/b/ a/b/f= a/e/ a/g=old a/l>b e/ e/new= f= l>a 5 10")
	is(t, "Append", d.Append("f", "again"), 0)
	holds(t, d, "a/ a/b/ a/b/f= a/e/ a/g=old a/l>b e/ e/new= f=again l>a 10 10")
}

// I3: a file that is there needs no node more; one that is not does.
func TestCreateWithoutRoom(t *testing.T) {
	d := with(t, 3, 3)
	fill(t, d, "a/ f=abc")
	is(t, "Create", d.Create("g"), 0)
	is(t, "Create without room", d.Create("h"), api.ErrQuota)
	is(t, "Create without room", d.Create("a/h"), api.ErrQuota)
	is(t, "Create of a directory, without room", d.Create("a"), api.ErrDir)
	is(t, "Create where the way is not clear, without room", d.Create("f/x"), api.ErrFile)
	is(t, "Create of no path, without room", d.Create("/h"), api.ErrName)
	holds(t, d, "a/ f=abc g= 3 3")
	is(t, "Append without room", d.Append("g", "x"), api.ErrQuota)
	is(t, "Create of what is there", d.Create("f"), 0)
	is(t, "Append into what is free again", d.Append("g", "xyz"), 0)
	holds(t, d, "a/ f= g=xyz 3 3")
	is(t, "Remove", d.Remove("f"), 0)
	is(t, "Link without room for its bytes", d.Link("x", "l"), api.ErrQuota)
	is(t, "Create", d.Create("g"), 0)
	is(t, "Link", d.Link("x", "l"), 0)
	is(t, "Create of a link, without room", d.Create("l"), api.ErrLink)
	holds(t, d, "a/ g= l>x 1 3")
}

// I4: text comes behind a file's bytes; only a file takes it.
func TestAppend(t *testing.T) {
	d := of(t, some)
	for p, want := range map[string]api.Errno{
		"": api.ErrDir, "a": api.ErrDir, "a/e": api.ErrDir, "l": api.ErrLink, "a/l": api.ErrLink, "q": api.ErrNone, "a/q": api.ErrNone,
		"q/x": api.ErrNone, "f/x": api.ErrFile, "l/x": api.ErrLink, "/": api.ErrName, "a/": api.ErrName,
	} {
		for _, text := range []string{"", "x", strings.Repeat("x", api.MaxBytes), strings.Repeat("x", api.MaxBytes+1)} {
			is(t, fmt.Sprintf("Append %s %d", p, len(text)), d.Append(p, text), want)
		}
	}
	holds(t, d, someUsed)
	is(t, "Append", d.Append("a/b/f", " there\x00\n"), 0)
	is(t, "Append", d.Append("a/b/f", ""), 0)
	is(t, "Append", d.Append("a/b/f", "\xff"), 0)
	is(t, "Append", d.Append("a/g", "er"), 0)
	holds(t, d, "a/ a/b/ a/b/f=hi there\x00\n\xff a/e/ a/g=older a/l>b e/ f=text l>a 22 9")
}

// I4: a file has MaxBytes bytes at most; that is asked ahead of the room.
func TestAppendToTheLimit(t *testing.T) {
	const limit = 1 << 22
	d := of(t, "f=ab g= h=")
	is(t, "one too many", d.Append("f", strings.Repeat("x", limit-1)), api.ErrLong)
	is(t, "one too many at once", d.Append("g", strings.Repeat("x", limit+1)), api.ErrLong)
	holds(t, d, "f=ab g= h= 2 3")
	is(t, "just so many", d.Append("f", strings.Repeat("x", limit-2)), 0)
	is(t, "just so many at once", d.Append("g", strings.Repeat("y", limit)), 0)
	is(t, "nothing more", d.Append("f", ""), 0)
	is(t, "one more", d.Append("f", "x"), api.ErrLong)
	is(t, "one more", d.Append("g", "x"), api.ErrLong)
	holds(t, d, "f=ab"+strings.Repeat("x", limit-2)+" g="+strings.Repeat("y", limit)+" h= 8388608 3")
	is(t, "Create", d.Create("g"), 0)
	is(t, "what was emptied", d.Append("g", strings.Repeat("z", limit)), 0)

	d = with(t, 5, 2)
	fill(t, d, "f=abc")
	is(t, "too long, and no room", d.Append("f", strings.Repeat("x", limit-2)), api.ErrLong)
	is(t, "no room", d.Append("f", strings.Repeat("x", limit-3)), api.ErrQuota)
	is(t, "no room", d.Append("f", "xyz"), api.ErrQuota)
	holds(t, d, "f=abc 3 1")
	is(t, "just so much room", d.Append("f", "xy"), 0)
	is(t, "nothing, without room", d.Append("f", ""), 0)
	is(t, "a byte more", d.Append("f", "x"), api.ErrQuota)
	holds(t, d, "f=abcxy 5 1")
	is(t, "nothing, behind a file that is not there", d.Append("g", ""), api.ErrNone)
}

// I5: a link comes where nothing stands, whatever its target is called.
func TestLink(t *testing.T) {
	d := of(t, some)
	for _, p := range []string{"", "a", "a/e", "f", "a/b/f", "l", "a/l"} {
		is(t, "Link to "+p, d.Link("x", p), api.ErrExist)
	}
	holds(t, d, someUsed)
	for i, target := range []string{"/", "..", ".", "../../x//y/", "nothing", "a/l2", "\n\xff", strings.Repeat("/", 4096), strings.Repeat("n", 4096)} {
		p := fmt.Sprint("a/e/", i)
		is(t, "Link "+target, d.Link(target, p), 0)
		if e, err := d.Look(p); err != nil || e != (api.Entry{Path: p, Kind: api.KindLink, Text: target}) {
			t.Error(e, err)
		}
	}
	if bytes, nodes := d.Used(); bytes != 11+1+2+1+11+7+4+2+2*4096 || nodes != 9+9 {
		t.Error(bytes, nodes)
	}
}

// I5: a target that may not be is told ahead of all other faults.
func TestTargets(t *testing.T) {
	d := with(t, 1, 3)
	fill(t, d, "a/ f= l>x")
	was := told(d)
	for _, target := range []string{"", strings.Repeat("n", 4097), "\x00", "a\x00b", "ab\x00", strings.Repeat("n", 4097) + "\x00"} {
		for _, p := range []string{"new", "", "a", "f", "l", "a//b", "q/x", "f/x", "l/x", strings.Repeat("n", 4097), "..", deep(65)} {
			is(t, fmt.Sprintf("Link %.20q %.20q", target, p), d.Link(target, p), api.ErrName)
		}
	}
	long := strings.Repeat("n", 4096)
	is(t, "no path", d.Link(long, "a//b"), api.ErrName)
	is(t, "too long a path", d.Link(long, deep(65)), api.ErrLong)
	is(t, "the way", d.Link(long, "q/x"), api.ErrNone)
	is(t, "the way", d.Link(long, "f/x"), api.ErrFile)
	is(t, "the way", d.Link(long, "l/x"), api.ErrLink)
	is(t, "something there", d.Link(long, "a"), api.ErrExist)
	is(t, "no room", d.Link(long, "new"), api.ErrQuota)
	holds(t, d, was)
}

// I5: a link needs room for a node, and for its target's bytes.
func TestLinkWithoutRoom(t *testing.T) {
	d := with(t, 10, 1)
	is(t, "Link", d.Link("x", "l"), 0)
	is(t, "no node", d.Link("x", "m"), api.ErrQuota)
	is(t, "no node, something there", d.Link("x", "l"), api.ErrExist)
	holds(t, d, "l>x 1 1")
	d = with(t, 5, 5)
	is(t, "Link", d.Link("abc", "l"), 0)
	is(t, "a byte too many", d.Link("abc", "m"), api.ErrQuota)
	is(t, "just so much room", d.Link("ab", "m"), 0)
	is(t, "a byte too many", d.Link("a", "n"), api.ErrQuota)
	is(t, "nothing there, without bytes", d.Create("n"), 0)
	holds(t, d, "l>abc m>ab n= 5 3")
}

// I7: what has nothing below it goes; the root stays.
func TestRemove(t *testing.T) {
	d := of(t, some)
	for p, want := range map[string]api.Errno{
		"": api.ErrArg, "q": api.ErrNone, "a/q": api.ErrNone, "a": api.ErrFull, "a/b": api.ErrFull, "q/x": api.ErrNone, "f/x": api.ErrFile, "l/x": api.ErrLink, "a/": api.ErrName,
	} {
		is(t, "Remove "+p, d.Remove(p), want)
	}
	holds(t, d, someUsed)
	for _, c := range []struct{ path, left string }{
		{"e", "a/ a/b/ a/b/f=hi a/e/ a/g=old a/l>b f=text l>a 11 8"},
		{"f", "a/ a/b/ a/b/f=hi a/e/ a/g=old a/l>b l>a 7 7"},
		{"l", "a/ a/b/ a/b/f=hi a/e/ a/g=old a/l>b 6 6"},
		{"a/b/f", "a/ a/b/ a/e/ a/g=old a/l>b 4 5"},
		{"a/b", "a/ a/e/ a/g=old a/l>b 4 4"},
		{"a/e", "a/ a/g=old a/l>b 4 3"},
		{"a/l", "a/ a/g=old 3 2"},
		{"a/g", "a/ 0 1"},
		{"a", "0 0"},
	} {
		is(t, "the root", d.Remove(""), api.ErrArg)
		is(t, "Remove "+c.path, d.Remove(c.path), 0)
		holds(t, d, c.left)
		is(t, "Remove again", d.Remove(c.path), api.ErrNone)
		holds(t, d, c.left)
	}
	is(t, "the root, with nothing in it", d.Remove(""), api.ErrArg)
}

// I7, I9: what was removed makes room.
func TestRemoveMakesRoom(t *testing.T) {
	d := with(t, 4, 2)
	for range 5 {
		fill(t, d, "f=abc l>x")
		is(t, "no room", d.Make("a"), api.ErrQuota)
		is(t, "Remove", d.Remove("l"), 0)
		is(t, "no room", d.Link("xy", "l"), api.ErrQuota)
		is(t, "Make", d.Make("a"), 0)
		is(t, "Remove", d.Remove("f"), 0)
		is(t, "no room", d.Link("12345", "a/l"), api.ErrQuota)
		is(t, "Link", d.Link("1234", "a/l"), 0)
		is(t, "Remove of a full one", d.Remove("a"), api.ErrFull)
		holds(t, d, "a/ a/l>1234 4 2")
		is(t, "Remove", d.Remove("a/l"), 0)
		is(t, "Remove", d.Remove("a"), 0)
		holds(t, d, "0 0")
	}
}
