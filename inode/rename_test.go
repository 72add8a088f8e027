package inode

import (
	"selvage/api"
	"strings"
	"testing"
)

// renames fails where a Rename answers another error than it should; with an error, nothing may have changed.
func renames(t *testing.T, d *Table, from, to string, want api.Errno) {
	t.Helper()
	was := told(d)
	is(t, "Rename "+from[:min(len(from), 40)]+" to "+to[:min(len(to), 40)], d.Rename(from, to), want)
	if want != 0 {
		holds(t, d, was)
	}
}

// I6: what is renamed stands elsewhere, with all that is below it.
func TestRename(t *testing.T) {
	for _, c := range []struct{ from, to, left string }{
		{"f", "h", "a/ a/b/ a/b/f=hi a/e/ a/g=old a/l>b e/ h=text l>a 11 9"},
		{"f", "a/b/x", "a/ a/b/ a/b/f=hi a/b/x=text a/e/ a/g=old a/l>b e/ l>a 11 9"},
		{"l", "a/e/l", "a/ a/b/ a/b/f=hi a/e/ a/e/l>a a/g=old a/l>b e/ f=text 11 9"},
		{"a/b/f", "h", "a/ a/b/ a/e/ a/g=old a/l>b e/ f=text h=hi l>a 11 9"},
		{"e", "a/b/e", "a/ a/b/ a/b/e/ a/b/f=hi a/e/ a/g=old a/l>b f=text l>a 11 9"},
		{"a", "e/x", "e/ e/x/ e/x/b/ e/x/b/f=hi e/x/e/ e/x/g=old e/x/l>b f=text l>a 11 9"},
		{"a", "z", "e/ f=text l>a z/ z/b/ z/b/f=hi z/e/ z/g=old z/l>b 11 9"},
		{"a/b", "b", "a/ a/e/ a/g=old a/l>b b/ b/f=hi e/ f=text l>a 11 9"},
		{"a/b", "a/c", "a/ a/c/ a/c/f=hi a/e/ a/g=old a/l>b e/ f=text l>a 11 9"},
		{"a", "ab", "ab/ ab/b/ ab/b/f=hi ab/e/ ab/g=old ab/l>b e/ f=text l>a 11 9"},
	} {
		d := of(t, some)
		renames(t, d, c.from, c.to, 0)
		holds(t, d, c.left)
		renames(t, d, c.from, c.to, api.ErrNone)
	}
}

// I6: a file, a link and a directory onto each of the same, and onto an empty and a full directory; what stood there is gone, and makes room.
func TestRenameOntoWhatIsThere(t *testing.T) {
	for _, c := range []struct {
		from, to string
		want     api.Errno
		left     string
	}{
		{"f", "a/g", 0, "a/ a/b/ a/b/f=hi a/e/ a/g=text a/l>b e/ l>a 8 8"},
		{"f", "a/l", 0, "a/ a/b/ a/b/f=hi a/e/ a/g=old a/l=text e/ l>a 10 8"},
		{"f", "a/e", api.ErrDir, someUsed},
		{"f", "a", api.ErrDir, someUsed},
		{"a/g", "a", api.ErrDir, someUsed},
		{"l", "a/g", 0, "a/ a/b/ a/b/f=hi a/e/ a/g>a a/l>b e/ f=text 8 8"},
		{"l", "a/l", 0, "a/ a/b/ a/b/f=hi a/e/ a/g=old a/l>a e/ f=text 10 8"},
		{"l", "e", api.ErrDir, someUsed},
		{"l", "a/b", api.ErrDir, someUsed},
		{"a/l", "a", api.ErrDir, someUsed},
		{"e", "f", api.ErrFile, someUsed},
		{"e", "l", api.ErrFile, someUsed},
		{"e", "a/e", 0, "a/ a/b/ a/b/f=hi a/e/ a/g=old a/l>b f=text l>a 11 8"},
		{"e", "a/b", api.ErrFull, someUsed},
		{"e", "a", api.ErrFull, someUsed},
		{"a", "f", api.ErrFile, someUsed},
		{"a", "l", api.ErrFile, someUsed},
		{"a", "e", 0, "e/ e/b/ e/b/f=hi e/e/ e/g=old e/l>b f=text l>a 11 8"},
		{"a/b", "a", api.ErrFull, someUsed},
		{"a/e", "a", api.ErrFull, someUsed},
		{"a/b", "e", 0, "a/ a/e/ a/g=old a/l>b e/ e/f=hi f=text l>a 11 8"},
	} {
		d := of(t, some)
		renames(t, d, c.from, c.to, c.want)
		holds(t, d, c.left)
	}
}

// I6: nothing happens where from is to, whatever stands there.
func TestRenameToItself(t *testing.T) {
	d := of(t, some)
	for _, p := range []string{"a", "a/b", "a/b/f", "a/e", "a/g", "a/l", "e", "f", "l"} {
		renames(t, d, p, p, 0)
		holds(t, d, someUsed)
	}
	for p, want := range map[string]api.Errno{"": api.ErrArg, "q": api.ErrNone, "q/x": api.ErrNone, "f/x": api.ErrFile, "l/x": api.ErrLink, "a//b": api.ErrName} {
		renames(t, d, p, p, want)
	}
}

// I6: each step of the order by itself.
func TestRenameFaults(t *testing.T) {
	d := of(t, some)
	for _, c := range []struct {
		from, to string
		want     api.Errno
	}{
		{"f/", "x", api.ErrName}, {"..", "x", api.ErrName}, {deep(65), "x", api.ErrLong}, {pathOf(4097, 17), "x", api.ErrLong},
		{"f", "/x", api.ErrName}, {"f", "a/./x", api.ErrName}, {"f", deep(65), api.ErrLong}, {"f", pathOf(4097, 17), api.ErrLong},
		{"", "x", api.ErrArg}, {"", "a", api.ErrArg}, {"", "q/x", api.ErrArg}, {"", "f/x", api.ErrArg},
		{"f", "", api.ErrExist}, {"a", "", api.ErrExist}, {"e", "", api.ErrExist}, {"l", "", api.ErrExist}, {"q", "", api.ErrExist},
		{"q/x", "x", api.ErrNone}, {"f/x", "x", api.ErrFile}, {"l/x", "x", api.ErrLink}, {"a/b/f/x/y", "x", api.ErrFile}, {"a/l/x", "x", api.ErrLink},
		{"q", "x", api.ErrNone}, {"a/q", "x", api.ErrNone},
		{"a", "a/x", api.ErrInside}, {"a", "a/b/x", api.ErrInside}, {"a", "a/b", api.ErrInside}, {"a", "a/g", api.ErrInside}, {"a", "a/l", api.ErrInside}, {"e", "e/e", api.ErrInside}, {"a/b", "a/b/f", api.ErrInside},
		{"f", "q/x", api.ErrNone}, {"f", "a/g/x", api.ErrFile}, {"f", "l/x", api.ErrLink}, {"a", "l/x", api.ErrLink}, {"l", "a/l/x", api.ErrLink},
	} {
		renames(t, d, c.from, c.to, c.want)
	}
	holds(t, d, someUsed)
}

// I6: of two faults the one that stands first in its order is told.
func TestRenameTwoFaults(t *testing.T) {
	d := of(t, some)
	long := pathOf(4097, 17)
	for _, c := range []struct {
		from, to string
		want     api.Errno
	}{
		// neither is a path
		{"a//b", long, api.ErrName}, {long, "a//b", api.ErrLong},
		// to is none, and from is the root, not to be come to, not there, to be brought to below itself
		{"", "a//b", api.ErrName}, {"", long, api.ErrLong}, {"f/x", "a//b", api.ErrName}, {"q", long, api.ErrLong}, {"a", "a//b", api.ErrName},
		// from is none, and to is the root
		{"a//b", "", api.ErrName}, {long, "", api.ErrLong},
		// both are the root
		{"", "", api.ErrArg},
		// to is the root, and from is not to be come to, or not there
		{"q/x", "", api.ErrExist}, {"f/x", "", api.ErrExist}, {"l/x", "", api.ErrExist}, {"q", "", api.ErrExist},
		// from is not to be come to, and so is to
		{"l/x", "f/x", api.ErrLink}, {"f/x", "l/x", api.ErrFile}, {"q/x", "f/x", api.ErrNone}, {"f/x", "q/x", api.ErrFile}, {"f/x", "f/x/y", api.ErrFile},
		// from is not to be come to, and to is something that it could not take the place of
		{"f/x", "a", api.ErrFile}, {"l/x", "a", api.ErrLink},
		// from is not there, and to lies below it, is not to be come to, or is there
		{"q", "q/x", api.ErrNone}, {"a/q", "a/q/x", api.ErrNone}, {"q", "f/x", api.ErrNone}, {"q", "l/x", api.ErrNone}, {"q", "a", api.ErrNone}, {"q", "f", api.ErrNone},
		// a directory to below itself, where one can't come to
		{"a", "a/q/x", api.ErrInside}, {"a", "a/g/x", api.ErrInside}, {"a", "a/l/x", api.ErrInside},
		// what is no directory has nothing below it: this is a fault of the way
		{"f", "f/x", api.ErrFile}, {"l", "l/x", api.ErrLink}, {"a/g", "a/g/x/y", api.ErrFile},
		// no directory onto a full one
		{"f", "a", api.ErrDir}, {"l", "a/b", api.ErrDir},
	} {
		renames(t, d, c.from, c.to, c.want)
	}
	holds(t, d, someUsed)
}

// I6: a path below must be one that path.Parts takes, in names and in bytes, each just so many.
func TestRenameTooLong(t *testing.T) {
	for _, c := range []struct {
		below, to string // below from, which is d
		want      api.Errno
	}{
		{deep(10), deep(54), 0}, {deep(10), deep(55), api.ErrLong}, {deep(63), "x", 0}, {deep(63), "x/y", api.ErrLong}, {deep(1), deep(63), 0}, {deep(1), deep(64), api.ErrLong},
		{pathOf(1000, 5), pathOf(3095, 20), 0}, {pathOf(1000, 5), pathOf(3096, 20), api.ErrLong},
		{pathOf(4093, 20), "x", 0}, {pathOf(4094, 20), "x", 0}, {pathOf(4094, 20), "xy", api.ErrLong},
		{"n", pathOf(4094, 17), 0}, {"n", pathOf(4095, 17), api.ErrLong}, {"nn", pathOf(4094, 17), api.ErrLong}, {"n", pathOf(4096, 17), api.ErrLong},
	} {
		for _, last := range []string{"directory", "file", "link"} {
			d := with(t, 100, api.MaxNodes)
			if i := strings.LastIndexByte(c.below, '/'); i >= 0 {
				makeAll(t, d, "d/"+c.below[:i])
			} else {
				makeAll(t, d, "d")
			}
			fill(t, d, "d/"+c.below+map[string]string{"directory": "/", "file": "=x", "link": ">x"}[last])
			fill(t, d, "d/a/ d/z=")
			if i := strings.LastIndexByte(c.to, '/'); i >= 0 {
				makeAll(t, d, c.to[:i])
			}
			renames(t, d, "d", c.to, c.want)
			at := "d"
			if c.want == 0 {
				at = c.to
			}
			if _, err := d.Look(at + "/" + c.below); err != nil {
				t.Errorf("%s of %d bytes to %d bytes: %v", last, len(c.below), len(c.to), err)
			}
			if _, err := d.Look("d"); (err == nil) != (c.want != 0) {
				t.Error(err)
			}
		}
	}
}

// I6: what has nothing below it goes wherever a path goes.
func TestRenameToLongPaths(t *testing.T) {
	for _, to := range []string{deep(64), pathOf(4096, 17), pathOf(4096, 64)} {
		for _, word := range []string{"x/", "x=hi", "x>t"} {
			d := of(t, word)
			makeAll(t, d, to[:strings.LastIndexByte(to, '/')])
			renames(t, d, "x", to, 0)
			if _, err := d.Look(to); err != nil {
				t.Error(word, err)
			}
			renames(t, d, to, "x", 0)
		}
	}
}

// I6: that paths would be too long is told behind all that is wrong with what stands at to.
func TestRenameTooLongAndMore(t *testing.T) {
	d := with(t, 100, api.MaxNodes)
	makeAll(t, d, "d/"+deep(10))
	makeAll(t, d, deep(60))
	fill(t, d, deep(59)+"/f= "+deep(59)+"/l>t "+deep(59)+"/e/ "+deep(60)+"/x=")
	renames(t, d, "d", deep(60), api.ErrFull)
	renames(t, d, "d", deep(59)+"/f", api.ErrFile)
	renames(t, d, "d", deep(59)+"/l", api.ErrFile)
	renames(t, d, "d", deep(59)+"/e", api.ErrLong)
	renames(t, d, "d", deep(59)+"/new", api.ErrLong)
	renames(t, d, "d", deep(59)+"/f/x", api.ErrFile)
	renames(t, d, "d", deep(59)+"/q/x", api.ErrNone)
	renames(t, d, "d", "d/"+deep(10)+"/"+deep(50), api.ErrInside)
	renames(t, d, "d", "d", 0)
}

// I6: a Rename needs no room.
func TestRenameWithoutRoom(t *testing.T) {
	d := with(t, 8, 5)
	fill(t, d, "a/ a/f=hello a/l>xy e/ g=z")
	renames(t, d, "a", "b", 0)
	renames(t, d, "b/f", "f", 0)
	holds(t, d, "b/ b/l>xy e/ f=hello g=z 8 5")
	renames(t, d, "g", "f", 0)
	holds(t, d, "b/ b/l>xy e/ f=z 3 4")
	renames(t, d, "b", "e", 0)
	holds(t, d, "e/ e/l>xy f=z 3 3")
	renames(t, d, "e/l", "f", 0)
	holds(t, d, "e/ f>xy 2 2")
	fill(t, d, "1/ 2/ 3=123456")
	is(t, "a node too many", d.Make("4"), api.ErrQuota)
	is(t, "a byte too many", d.Append("3", "7"), api.ErrQuota)
}
