package inode

import (
	"fmt"
	"selvage/api"
	"strings"
	"testing"
)

// steps are numbers that look like chance, the same ones each time.
type steps uint64

// below is the next number, from 0 to n - 1.
func (s *steps) below(n int) int {
	*s = *s*6364136223846793005 + 1442695040888963407
	return int(uint64(*s) >> 33 % uint64(n))
}

// call is a call of a file system: its name, its path (of Rename from), its text (of Link the target, of Rename to).
type call struct{ name, path, text string }

// changing are the names of the calls that change something.
var changing = strings.Fields("Make Create Append Link Rename Remove")

// err does a call that changes something.
func (c call) err(s system) error {
	switch c.name {
	case "Make":
		return s.Make(c.path)
	case "Create":
		return s.Create(c.path)
	case "Append":
		return s.Append(c.path, c.text)
	case "Link":
		return s.Link(c.text, c.path)
	case "Rename":
		return s.Rename(c.path, c.text)
	case "Remove":
		return s.Remove(c.path)
	}
	panic(c.name)
}

// asked is what the calls that ask answer at a path.
func asked(s system, p string) string {
	e, errLook := s.Look(p)
	text, errRead := s.Read(p)
	names, errList := s.List(p)
	l, errTree := s.Tree(p)
	return fmt.Sprintf("%q %d %q %d %q %d %q %d", short(e), number(errLook), text, number(errRead), names, number(errList), words(l), number(errTree))
}

// few are paths of two names, two deep, and some that are none.
var few = []string{"", "a", "b", "a/a", "a/b", "b/a", "a/a/a", "a//b"}

// fewCalls are calls at few paths.
func fewCalls() []call {
	var l []call
	for _, p := range few {
		l = append(l, call{"Make", p, ""}, call{"Create", p, ""}, call{"Append", p, ""}, call{"Append", p, "x"}, call{"Link", p, ""}, call{"Link", p, "t"}, call{"Remove", p, ""})
		for _, q := range few {
			l = append(l, call{"Rename", p, q})
		}
	}
	return l
}

// eachState hands on each state that few calls can make of an empty file system with this room: as built, and by the words.
func eachState(t *testing.T, bytes, nodes int, see func(d *Table, f *flat)) {
	t.Helper()
	type both struct {
		d *Table
		f *flat
	}
	calls := fewCalls()
	states := []both{{with(t, bytes, nodes), newFlat(bytes, nodes)}}
	seen := map[string]bool{told(states[0].f): true}
	for len(states) > 0 {
		s := states[0]
		states = states[1:]
		see(s.d, s.f)
		for _, c := range calls {
			f := s.f.Clone()
			if err := c.err(f); err != nil || seen[told(f)] {
				continue
			}
			d := s.d.Clone()
			is(t, fmt.Sprint(told(s.f), c), c.err(d), 0)
			seen[told(f)] = true
			states = append(states, both{d, f})
		}
	}
	if len(seen) < 500 {
		t.Error("no more than", len(seen), "states")
	}
}

// I2 to I10: from each state of a small file system on, each call answers what the words say, leaves what they say, and changes nothing where it fails.
func TestEachCallFromEachState(t *testing.T) {
	calls := fewCalls()
	eachState(t, 2, 4, func(d *Table, f *flat) {
		was := told(d)
		if was != told(f) {
			t.Fatalf("there is %s, not %s", was, told(f))
		}
		for _, p := range few {
			if got, want := asked(d, p), asked(f, p); got != want {
				t.Fatalf("%s, at %q: %s, not %s", was, p, got, want)
			}
		}
		for _, c := range calls {
			fresh, byWords := d.Clone(), f.Clone()
			err, want := c.err(fresh), c.err(byWords)
			if number(err) != number(want) {
				t.Fatalf("%s, %v: %v, not %v", was, c, err, want)
			}
			if got := told(fresh); got != told(byWords) || err != nil && got != was {
				t.Fatalf("%s, %v: %s, not %s", was, c, got, told(byWords))
			}
		}
		if told(d) != was {
			t.Fatal("clones have changed", was, "to", told(d))
		}
	})
}

// somePath is a path of the few that often meet one another; now and then one that is none, or too long.
func somePath(next *steps) string {
	names := []string{"a", "a", "a", "b", "b", "c", "a!", "\xff"}
	depths := []int{1, 1, 1, 2, 2, 2, 3, 3, 4}
	var parts []string
	for range depths[next.below(len(depths))] {
		parts = append(parts, names[next.below(len(names))])
	}
	p := strings.Join(parts, "/")
	switch next.below(100) {
	case 0:
		return p + "/"
	case 1:
		return p + "/.."
	case 2:
		return "a/" + deep(60+next.below(8))
	case 3:
		return "a/" + pathOf(4080+next.below(20), 17)
	case 4:
		return ""
	}
	return p
}

// someCall is a call that changes something, or is to.
func someCall(next *steps) call {
	often := strings.Fields("Make Make Make Create Create Append Append Link Rename Rename Rename Remove")
	c := call{often[next.below(len(often))], somePath(next), strings.Repeat("t", next.below(4))}
	switch {
	case c.name == "Rename":
		c.text = somePath(next)
	case next.below(40) == 0:
		c.text = strings.Repeat("l", 4090+next.below(10))
	case next.below(40) == 0:
		c.text = "a\x00"
	}
	return c
}

// I2 to I11: many calls one behind the other answer what the words say, and leave what they say.
func TestManyCalls(t *testing.T) {
	next := steps(20)
	for range 300 {
		bytes, nodes := []int{0, 10, 100, 5000, api.MaxNumber}[next.below(5)], []int{3, 10, 20, 40, api.MaxNodes}[next.below(5)]
		d, f := with(t, bytes, nodes), newFlat(bytes, nodes)
		for range 150 {
			c := someCall(&next)
			was := told(d)
			err, want := c.err(d), c.err(f)
			if number(err) != number(want) {
				t.Fatalf("%s, %q: %v, not %v", was, c, err, want)
			}
			if got := told(d); got != told(f) || err != nil && got != was {
				t.Fatalf("%s, %q: %s, not %s", was, c, got, told(f))
			}
			p := somePath(&next)
			if got, want := asked(d, p), asked(f, p); got != want {
				t.Fatalf("%s, at %q: %s, not %s", told(d), p, got, want)
			}
		}
	}
}
