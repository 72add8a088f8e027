package inode

import (
	"fmt"
	"selvage/api"
	"selvage/path"
	"strings"
	"testing"
)

// anew is a file system with this room, made of the entries of a Tree of the root, in their order.
func anew(t *testing.T, bytes, nodes int, l []api.Entry) *Table {
	t.Helper()
	d := with(t, bytes, nodes)
	for _, e := range l[1:] {
		var err error
		switch e.Kind {
		case api.KindDir:
			err = d.Make(e.Path)
		case api.KindFile:
			if err = d.Create(e.Path); err == nil {
				err = d.Append(e.Path, e.Text)
			}
		case api.KindLink:
			err = d.Link(e.Text, e.Path)
		}
		if err != nil {
			t.Fatal(e, err)
		}
	}
	return d
}

// grown is a file system that many calls have made, and how many of them failed.
func grown(t *testing.T, next *steps, bytes, nodes, calls int) (*Table, int) {
	t.Helper()
	d := with(t, bytes, nodes)
	failed := 0
	for range calls {
		if someCall(next).err(d) != nil {
			failed++
		}
	}
	return d, failed
}

// tree is the Tree of the root.
func tree(t *testing.T, d *Table) []api.Entry {
	t.Helper()
	l, err := d.Tree("")
	if err != nil {
		t.Fatal(err)
	}
	return l
}

// I10: a file system made anew from the Tree of the root answers every call alike.
func TestMadeAnewFromItsTree(t *testing.T) {
	calls := fewCalls()
	eachState(t, 2, 4, func(d *Table, _ *flat) {
		other := anew(t, 2, 4, tree(t, d))
		for _, p := range few {
			if got, want := asked(other, p), asked(d, p); got != want {
				t.Fatalf("at %q: %s, not %s", p, got, want)
			}
		}
		for _, c := range calls {
			one, two := d.Clone(), other.Clone()
			if first, second := c.err(one), c.err(two); number(first) != number(second) || told(one) != told(two) {
				t.Fatalf("%s, %q: %v, %v; %s, %s", told(d), c, first, second, told(one), told(two))
			}
		}
	})
	next := steps(21)
	for range 100 {
		d, _ := grown(t, &next, 5000, 30, 100)
		other := anew(t, 5000, 30, tree(t, d))
		for range 100 {
			c, p := someCall(&next), somePath(&next)
			if first, second := c.err(d), c.err(other); number(first) != number(second) || told(d) != told(other) || asked(d, p) != asked(other, p) {
				t.Fatalf("%q: %v, %v; %s, %s", c, first, second, told(d), told(other))
			}
		}
	}
}

// I9, I10: what is used is the bytes and the number of the entries of the Tree, never more than there is room for.
func TestUsedIsToldByTheTree(t *testing.T) {
	next := steps(22)
	for range 200 {
		maxBytes, maxNodes := next.below(30), next.below(15)
		d := with(t, maxBytes, maxNodes)
		for range 100 {
			someCall(&next).err(d)
			l := tree(t, d)
			sum := 0
			for _, e := range l {
				sum += len(e.Text)
			}
			bytes, nodes := d.Used()
			if bytes != sum || nodes != len(l)-1 || bytes > maxBytes || nodes > maxNodes {
				t.Fatalf("%d, %d are used of %d, %d, by %v", bytes, nodes, maxBytes, maxNodes, l)
			}
		}
	}
}

// I10: what is renamed, and renamed back, is as it was, if nothing stood at its new place.
func TestThereAndBack(t *testing.T) {
	moved := 0
	back := func(d *Table, from, to string) {
		t.Helper()
		was := told(d)
		_, err := d.Look(to)
		if free := number(err) == int(api.ErrNone); !free {
			return
		}
		c := d.Clone()
		if c.Rename(from, to) != nil {
			return
		}
		moved++
		if told(c) == was {
			t.Fatalf("%s: Rename %s to %s does nothing", was, from, to)
		}
		is(t, "Rename back", c.Rename(to, from), 0)
		holds(t, c, was)
	}
	eachState(t, 2, 4, func(d *Table, _ *flat) {
		for _, from := range few {
			for _, to := range few {
				back(d, from, to)
			}
		}
	})
	next := steps(23)
	for range 200 {
		d, _ := grown(t, &next, 5000, 30, 60)
		for range 100 {
			back(d, somePath(&next), somePath(&next))
		}
	}
	if moved < 1000 {
		t.Error("only", moved)
	}
}

// paths are those of a call.
func (c call) paths() []string {
	if c.name == "Rename" {
		return []string{c.path, c.text}
	}
	return []string{c.path}
}

// apart tells whether of two calls' paths none is, or lies below, one of the other call.
func apart(c, d call) bool {
	for _, p := range c.paths() {
		for _, q := range d.paths() {
			if path.Below(p, q) || path.Below(q, p) {
				return false
			}
		}
	}
	return true
}

// I10: two calls at paths that are apart end alike in either order, and answer alike.
func TestEitherOrder(t *testing.T) {
	done := 0
	order := func(d *Table, c, e call) {
		t.Helper()
		if !apart(c, e) {
			return
		}
		one, two := d.Clone(), d.Clone()
		first, second := number(c.err(one)), number(e.err(one))
		last, ahead := number(e.err(two)), number(c.err(two))
		if first != ahead || second != last || told(one) != told(two) {
			t.Fatalf("%s, %q and %q: %d, %d, %s; in the other order %d, %d, %s", told(d), c, e, first, second, told(one), ahead, last, told(two))
		}
		if first == 0 && second == 0 {
			done++
		}
	}
	next := steps(24)
	calls := fewCalls()
	eachState(t, 2, 4, func(d *Table, _ *flat) {
		roomy := anew(t, 1000, 1000, tree(t, d))
		for range 300 {
			order(roomy, calls[next.below(len(calls))], calls[next.below(len(calls))])
		}
	})
	for range 400 {
		d, _ := grown(t, &next, api.MaxNumber, api.MaxNodes, 80)
		for range 200 {
			order(d, someCall(&next), someCall(&next))
		}
	}
	if done < 1000 {
		t.Error("only", done)
	}
}

// I10: what an error of the way says hangs on the names ahead of the last one alone; and all calls say the same.
func TestTheWayHangsOnTheNamesAhead(t *testing.T) {
	next := steps(25)
	failed := 0
	for range 300 {
		d, _ := grown(t, &next, 5000, 30, 60)
		dir := somePath(&next)
		if _, err := path.Parts(dir + "/x"); err != nil {
			continue
		}
		_, err := d.List(dir)
		if err == nil {
			continue
		}
		failed++
		for _, name := range []string{"x", "a", "b", "c", "...", "\xff", strings.Repeat("n", 6)} {
			if parts(dir+"/"+name) == nil {
				everyCallFailsButTo(t, d, api.Errno(number(err)), dir+"/"+name)
			}
		}
	}
	if failed < 50 {
		t.Error("only", failed)
	}
}

// everyCallFailsButTo is everyCallFails, but for Rename to that path, which needs something to rename.
func everyCallFailsButTo(t *testing.T, d *Table, want api.Errno, p string) {
	t.Helper()
	for _, c := range append(changes[:len(changes):len(changes)], asks...) {
		if c.name != "Rename to" {
			is(t, fmt.Sprintf("%s, %s %q", told(d), c.name, p), c.do(d, p), want)
		}
	}
}

// I11: all paths of a Tree are such as path.Parts takes, each once, below a directory; behind calls of which many fail, and many do not.
func TestTreesAreTrees(t *testing.T) {
	next := steps(26)
	for range 100 {
		const calls = 200
		d, failed := grown(t, &next, 5000, 40, calls)
		if failed < calls/20 || failed > calls*19/20 {
			t.Errorf("%d of %d calls failed", failed, calls)
		}
		kinds := map[string]int{}
		for i, e := range tree(t, d) {
			if err := parts(e.Path); err != nil {
				t.Errorf("%q: %v", e.Path, err)
			}
			if i > 0 && kinds[path.Dir(e.Path)] != api.KindDir {
				t.Errorf("%q stands below no directory", e.Path)
			}
			if kinds[e.Path] != api.KindNone || e.Kind == api.KindNone {
				t.Errorf("%q stands there twice, or as nothing", e.Path)
			}
			kinds[e.Path] = e.Kind
		}
	}
}
