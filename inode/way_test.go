package inode

import (
	"selvage/api"
	"strings"
	"testing"
)

// every call tells the way by the first that is no directory, whatever the last name is.
func TestTheWay(t *testing.T) {
	d := of(t, some)
	everyCallFails(t, d, api.ErrNone, "q/x", "a/q/x", "a/b/q/x", "q/x/y/z", "a/q/f/x", "q/f/x", "a/b/x/l/f/x", "e/f/x", "F/x")
	everyCallFails(t, d, api.ErrFile, "f/x", "a/g/x", "a/b/f/x", "f/x/y", "f/l/x", "f/f/f", "a/g/q/x", "a/b/f/l/x")
	everyCallFails(t, d, api.ErrLink, "l/x", "a/l/x", "l/b/f", "l/g", "l/b/f/x", "a/l/f/x", "l/q/x", "l/f/x")
	holds(t, d, someUsed)
}

// a way that meets nothing, a file and a link, in each order: the first one is told.
func TestTheFirstOnTheWay(t *testing.T) {
	for word, want := range map[string]api.Errno{"": api.ErrNone, "a=": api.ErrFile, "a>b": api.ErrLink} {
		d := of(t, word+" f=x")
		everyCallFails(t, d, want, "a/b", "a/a/a/a", "a/f/x", "a/"+deep(63), "a/"+strings.Repeat("n", 255))
		is(t, "Rename", d.Rename("a/x", "f/x"), want)
		is(t, "Rename", d.Rename("a/x", "q/x"), want)
	}
}

// every call tells first that its path is none, whatever stands there, and whatever the way is.
func TestNoPaths(t *testing.T) {
	d := with(t, 11, 9) // all of it is used
	fill(t, d, some)
	everyCallFails(t, d, api.ErrName, "/", "//", "a/", "/a", "a//b", ".", "..", "a/.", "a/..", "./a", "../a", "a/../f", "f/", "f//x", "l/.", "q/..", "q//x",
		"\x00", "a/\x00", "a\x00", strings.Repeat("n", 256), "a/"+strings.Repeat("n", 256), "q/"+strings.Repeat("n", 256)+"/x", "l/"+strings.Repeat("n", 4000), strings.Repeat("/", 4096), deep(70)+"/")
	everyCallFails(t, d, api.ErrLong, deep(65), "a/"+deep(64), "f/"+deep(64), "l/"+deep(64), "q/"+deep(64), pathOf(4097, 17), pathOf(4097, 64), strings.Repeat("/", 4097), strings.Repeat("n", 1<<20), "a/"+strings.Repeat("./", 3000))
	for _, p := range []string{deep(64), pathOf(4096, 17), pathOf(4096, 64)} {
		everyCallFails(t, d, api.ErrNone, p)
	}
	holds(t, d, someUsed)
}

// the longest and the deepest paths are such as any.
func TestLongestPaths(t *testing.T) {
	for _, p := range []string{deep(64), pathOf(4096, 17), pathOf(4096, 64)} {
		d := with(t, 10, 100)
		dir := p[:strings.LastIndexByte(p, '/')]
		makeAll(t, d, dir)
		was := told(d)
		is(t, "Make", d.Make(p), 0)
		is(t, "Make", d.Make(p+"/x"), api.ErrLong)
		is(t, "Remove", d.Remove(p), 0)
		is(t, "Create", d.Create(p), 0)
		is(t, "Append", d.Append(p, "text"), 0)
		if text, err := d.Read(p); text != "text" || err != nil {
			t.Error(text, err)
		}
		if l, err := d.List(dir); len(l) != 1 || l[0] != p[len(dir)+1:] || err != nil {
			t.Error(l, err)
		}
		is(t, "Remove", d.Remove(p), 0)
		is(t, "Link", d.Link("t", p), 0)
		is(t, "Rename", d.Rename(p, "l"), 0)
		is(t, "Rename", d.Rename("l", p), 0)
		if l, err := d.Tree(p); len(l) != 1 || l[0] != (api.Entry{Path: p, Kind: api.KindLink, Text: "t"}) || err != nil {
			t.Error(l, err)
		}
		is(t, "Remove", d.Remove(p), 0)
		holds(t, d, was)
	}
}

// the root is a directory that is there, and is not counted; no call makes it, moves it, or takes it away.
func TestTheRoot(t *testing.T) {
	for _, words := range []string{"", some} {
		d := of(t, words)
		was := told(d)
		is(t, "Make", d.Make(""), api.ErrExist)
		is(t, "Create", d.Create(""), api.ErrDir)
		is(t, "Append", d.Append("", "x"), api.ErrDir)
		is(t, "Link", d.Link("x", ""), api.ErrExist)
		is(t, "Rename", d.Rename("", "x"), api.ErrArg)
		is(t, "Rename", d.Rename("f", ""), api.ErrExist)
		is(t, "Remove", d.Remove(""), api.ErrArg)
		if e, err := d.Look(""); e != (api.Entry{Kind: api.KindDir}) || err != nil {
			t.Error(e, err)
		}
		if text, err := d.Read(""); text != "" || number(err) != int(api.ErrDir) {
			t.Error(text, err)
		}
		if _, err := d.List(""); err != nil {
			t.Error(err)
		}
		holds(t, d, was)
	}
}

// names are bytes: letters, blanks and dots mean nothing, and no link leads anywhere.
func TestNamesAreBytes(t *testing.T) {
	d := of(t, "a/ a/f=1 A/ A/f=2 f= l>a m>l n>n")
	for _, name := range []string{"...", ".a", "a.", " ", "a ", "\\", "*", "~", "-", "\xc3\xa4", "a\xcc\x88", "\xc3", "a\n"} {
		is(t, "Create", d.Create(name), 0)
		is(t, "Append", d.Append(name, name), 0)
	}
	for _, name := range []string{"...", ".a", "a.", " ", "a ", "\\", "*", "~", "-", "\xc3\xa4", "a\xcc\x88", "\xc3", "a\n"} {
		if text, err := d.Read(name); text != name || err != nil {
			t.Errorf("%q: %q, %v", name, text, err)
		}
	}
	everyCallFails(t, d, api.ErrLink, "l/f", "m/f", "n/n", "n/x")
	for p, want := range map[string]string{"a/f": "1", "A/f": "2"} {
		if text, err := d.Read(p); text != want || err != nil {
			t.Error(p, text, err)
		}
	}
}
