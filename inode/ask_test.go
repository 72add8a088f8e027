package inode

import (
	"fmt"
	"selvage/api"
	"slices"
	"strings"
	"testing"
)

// words are entries as words, one beside the other.
func words(l []api.Entry) string {
	var all []string
	for _, e := range l {
		all = append(all, short(e))
	}
	return strings.Join(all, " ")
}

// I8: Look is the entry of what stands at a path.
func TestLook(t *testing.T) {
	d := of(t, some)
	for _, e := range []api.Entry{
		{Path: "", Kind: api.KindDir}, {Path: "a", Kind: api.KindDir}, {Path: "a/b", Kind: api.KindDir}, {Path: "a/e", Kind: api.KindDir}, {Path: "a/b/f", Kind: api.KindFile, Text: "hi"},
		{Path: "a/g", Kind: api.KindFile, Text: "old"}, {Path: "f", Kind: api.KindFile, Text: "text"}, {Path: "l", Kind: api.KindLink, Text: "a"}, {Path: "a/l", Kind: api.KindLink, Text: "b"},
	} {
		if got, err := d.Look(e.Path); got != e || err != nil {
			t.Errorf("Look %s: %v, %v, not %v", e.Path, got, err, e)
		}
	}
	fails(t, d, "Look", api.ErrNone, "q", "a/q", "a/b/q", "q/x", "F", "ab")
	is(t, "Create", d.Create("f"), 0)
	if got, err := d.Look("f"); got != (api.Entry{Path: "f", Kind: api.KindFile}) || err != nil {
		t.Error(got, err)
	}
}

// fails fails where one of the calls that ask answers something else than an error at these paths.
func fails(t *testing.T, d *Table, name string, want api.Errno, paths ...string) {
	t.Helper()
	for _, c := range asks {
		for _, p := range paths {
			if c.name == name {
				is(t, name+" "+p, c.do(d, p), want)
			}
		}
	}
}

// I8: Read are a file's bytes.
func TestRead(t *testing.T) {
	d := of(t, some)
	for p, want := range map[string]string{"a/b/f": "hi", "a/g": "old", "f": "text"} {
		if got, err := d.Read(p); got != want || err != nil {
			t.Errorf("Read %s: %q, %v", p, got, err)
		}
	}
	fails(t, d, "Read", api.ErrNone, "q", "a/q", "q/x")
	fails(t, d, "Read", api.ErrDir, "", "a", "a/b", "e")
	fails(t, d, "Read", api.ErrLink, "l", "a/l", "l/x")
	fails(t, d, "Read", api.ErrFile, "f/x")
	is(t, "Append", d.Append("f", "\x00\xff"), 0)
	if got, err := d.Read("f"); got != "text\x00\xff" || err != nil {
		t.Error(got, err)
	}
	is(t, "Create", d.Create("f"), 0)
	if got, err := d.Read("f"); got != "" || err != nil {
		t.Error(got, err)
	}
}

// I8: List are the names in a directory, rising by bytes.
func TestList(t *testing.T) {
	d := of(t, some)
	for p, want := range map[string]string{"": "[a e f l]", "a": "[b e g l]", "a/b": "[f]", "e": "[]", "a/e": "[]"} {
		if got, err := d.List(p); fmt.Sprint(got) != want || err != nil {
			t.Errorf("List %s: %q, %v", p, got, err)
		}
	}
	fails(t, d, "List", api.ErrNone, "q", "a/q", "q/x")
	fails(t, d, "List", api.ErrFile, "f", "a/g", "f/x")
	fails(t, d, "List", api.ErrLink, "l", "a/l", "l/x")
}

// I8: names are in order by their bytes, those that are beginnings of others ahead of them.
func TestListRises(t *testing.T) {
	names := []string{"\x01", "\t", "\n", " ", "!", "-", "...", ".a", "0", "00", "1", "10", "2", "A", "Z", "a", "a ", "a!", "a.", "a.b", "a0", "aa", "ab", "b", "z", "\x7f", "\x80", "\xc3\xa4", "\xff", "\xff\xff", strings.Repeat("n", 255)}
	slices.Sort(names)
	next := steps(3)
	for range 50 {
		d := with(t, 100, 100)
		left := slices.Clone(names)
		for len(left) > 0 {
			i := next.below(len(left))
			is(t, "Create", d.Create(left[i]), 0)
			left = slices.Delete(left, i, i+1)
		}
		if got, err := d.List(""); !slices.Equal(got, names) || err != nil {
			t.Fatalf("%q, %v", got, err)
		}
	}
}

// I8: Tree is all that stands at a path and below it.
func TestTree(t *testing.T) {
	d := of(t, some)
	for p, want := range map[string]string{
		"": "/ " + some, "a": "a/ a/b/ a/b/f=hi a/e/ a/g=old a/l>b", "a/b": "a/b/ a/b/f=hi", "a/e": "a/e/", "e": "e/", "a/b/f": "a/b/f=hi", "f": "f=text", "l": "l>a", "a/l": "a/l>b",
	} {
		if got, err := d.Tree(p); words(got) != want || err != nil {
			t.Errorf("Tree %s: %v, %v", p, got, err)
		}
	}
	fails(t, d, "Tree", api.ErrNone, "q", "a/q", "q/x")
	fails(t, d, "Tree", api.ErrFile, "f/x", "a/g/x")
	fails(t, d, "Tree", api.ErrLink, "l/x", "a/l/x")
	if got, err := with(t, 0, 0).Tree(""); len(got) != 1 || got[0] != (api.Entry{Kind: api.KindDir}) || err != nil {
		t.Error(got, err)
	}
}

// I8: what is in a directory stands right behind it, also where another name has bytes below '/' behind the same beginning.
func TestTreeRises(t *testing.T) {
	sorted := strings.Fields("a/ a/b/ a/b/x= a/b!= a/b-/ a/b-/x= a/b.c= a/b0= a/ba/ a/ba/x= a/z= a!/ a!/a= a-= a.b/ a.b/x= a0/ a0/a= aa/ aa/a/ b=")
	next := steps(4)
	for range 50 {
		d := with(t, 100, 100)
		left := slices.Clone(sorted)
		for len(left) > 0 {
			i := next.below(len(left))
			word := left[i]
			if enter(d, word) == nil {
				left = slices.Delete(left, i, i+1)
			}
		}
		if got, err := d.Tree(""); words(got[1:]) != strings.Join(sorted, " ") || err != nil {
			t.Fatalf("%v, %v", got, err)
		}
		if got, err := d.Tree("a"); words(got) != strings.Join(sorted[:11], " ") || err != nil {
			t.Fatalf("%v, %v", got, err)
		}
	}
}

// I9: Used is all that there is, behind each call.
func TestUsed(t *testing.T) {
	d := with(t, 100, 100)
	for _, c := range []struct {
		what         string
		do           func() error
		bytes, nodes int
	}{
		{"nothing", func() error { return nil }, 0, 0},
		{"Make", func() error { return d.Make("a") }, 0, 1},
		{"Create", func() error { return d.Create("a/f") }, 0, 2},
		{"Append", func() error { return d.Append("a/f", "12345") }, 5, 2},
		{"Append", func() error { return d.Append("a/f", "678") }, 8, 2},
		{"Append nothing", func() error { return d.Append("a/f", "") }, 8, 2},
		{"Link", func() error { return d.Link("../x", "a/l") }, 12, 3},
		{"Create anew", func() error { return d.Create("a/f") }, 4, 3},
		{"Append", func() error { return d.Append("a/f", "9") }, 5, 3},
		{"Create", func() error { return d.Create("g") }, 5, 4},
		{"Append", func() error { return d.Append("g", "abc") }, 8, 4},
		{"Rename", func() error { return d.Rename("a", "b") }, 8, 4},
		{"Rename onto a link", func() error { return d.Rename("g", "b/l") }, 4, 3},
		{"Rename onto a file", func() error { return d.Rename("b/f", "b/l") }, 1, 2},
		{"Rename to itself", func() error { return d.Rename("b/l", "b/l") }, 1, 2},
		{"Make", func() error { return d.Make("c") }, 1, 3},
		{"Rename onto a directory", func() error { return d.Rename("b", "c") }, 1, 2},
		{"Remove of a file", func() error { return d.Remove("c/l") }, 0, 1},
		{"Link", func() error { return d.Link("12", "m") }, 2, 2},
		{"Remove of a link", func() error { return d.Remove("m") }, 0, 1},
		{"Remove of a directory", func() error { return d.Remove("c") }, 0, 0},
	} {
		is(t, c.what, c.do(), 0)
		if bytes, nodes := d.Used(); bytes != c.bytes || nodes != c.nodes {
			t.Errorf("%s: used are %d, %d, not %d, %d", c.what, bytes, nodes, c.bytes, c.nodes)
		}
	}
}

// I1: a Clone is like what it was taken of, and neither meets what is done to the other one.
func TestClone(t *testing.T) {
	d := with(t, 20, 12)
	fill(t, d, some)
	c := d.Clone()
	holds(t, c, someUsed)
	was := func(what string, untouched *Table, want string) {
		t.Helper()
		if got := told(untouched); got != want {
			t.Errorf("behind %s the other one has %s, not %s", what, got, want)
		}
	}
	is(t, "Append", d.Append("f", "+one"), 0)
	was("Append", c, someUsed)
	is(t, "Append", c.Append("f", "+two!"), 0)
	holds(t, d, "a/ a/b/ a/b/f=hi a/e/ a/g=old a/l>b e/ f=text+one l>a 15 9")
	holds(t, c, "a/ a/b/ a/b/f=hi a/e/ a/g=old a/l>b e/ f=text+two! l>a 16 9")
	is(t, "Append", d.Append("f", "..."), 0)
	holds(t, c, "a/ a/b/ a/b/f=hi a/e/ a/g=old a/l>b e/ f=text+two! l>a 16 9")
	is(t, "Rename", c.Rename("a", "e/x"), 0)
	is(t, "Remove", c.Remove("e/x/b/f"), 0)
	is(t, "Create", c.Create("f"), 0)
	is(t, "Link", c.Link("q", "e/x/b/m"), 0)
	is(t, "Make", c.Make("a"), 0)
	holds(t, c, "a/ e/ e/x/ e/x/b/ e/x/b/m>q e/x/e/ e/x/g=old e/x/l>b f= l>a 6 10")
	holds(t, d, "a/ a/b/ a/b/f=hi a/e/ a/g=old a/l>b e/ f=text+one... l>a 18 9")
	is(t, "Remove", d.Remove("a/l"), 0)
	is(t, "Rename", d.Rename("f", "a/g"), 0)
	holds(t, d, "a/ a/b/ a/b/f=hi a/e/ a/g=text+one... e/ l>a 14 7")
	holds(t, c, "a/ e/ e/x/ e/x/b/ e/x/b/m>q e/x/e/ e/x/g=old e/x/l>b f= l>a 6 10")
}

// I1: a Clone has the same room, and what is used of it there is not used here.
func TestCloneHasItsRoom(t *testing.T) {
	d := with(t, 5, 3)
	fill(t, d, "f=abc")
	c := d.Clone()
	for _, s := range []*Table{d, c, c.Clone()} {
		is(t, "too many bytes", s.Append("f", "def"), api.ErrQuota)
		is(t, "just so many", s.Append("f", "de"), 0)
		is(t, "Make", s.Make("a"), 0)
		is(t, "Make", s.Make("b"), 0)
		is(t, "too many nodes", s.Make("c"), api.ErrQuota)
		if s == d {
			holds(t, c, "f=abc 3 1")
		}
	}
}
