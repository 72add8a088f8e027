package inode

import (
	"fmt"
	"math"
	"selvage/api"
	"slices"
	"strings"
	"sync"
	"testing"
	"time"
)

// scribble writes over a list, and over the room behind it.
func scribble[T any](list []T, with T) {
	list = list[:cap(list)]
	for i := range list {
		list[i] = with
	}
}

// P2: what the caller writes into a list that it was given, and into the room behind it, is met by no later call.
func TestAnswersAreTheCallers(t *testing.T) {
	d := of(t, some)
	for _, p := range []string{"", "a", "a/b", "e", "f", "l"} {
		want := asked(d, p)
		for range 3 {
			names, _ := d.List(p)
			scribble(names, "scribbled")
			scribble(append(names, "more"), "scribbled")
			l, _ := d.Tree(p)
			scribble(l, api.Entry{Path: "scribbled", Kind: 7})
			scribble(append(l, api.Entry{}), api.Entry{Path: "scribbled"})
			if got := asked(d, p); got != want {
				t.Fatalf("at %q: %s, not %s", p, got, want)
			}
		}
	}
	holds(t, d, someUsed)
}

// P2: no two answers share any memory, nor does a Clone's with the one it was taken of.
func TestAnswersShareNothing(t *testing.T) {
	d := of(t, some)
	c := d.Clone()
	names, _ := d.List("a")
	same, _ := d.List("a")
	clones, _ := c.List("a")
	l, _ := d.Tree("")
	others, _ := c.Tree("")
	scribble(names, "scribbled")
	scribble(l, api.Entry{Path: "scribbled"})
	if fmt.Sprint(same, clones) != "[b e g l] [b e g l]" || words(others) != "/ "+some {
		t.Error(same, clones, words(others))
	}
}

// P2: an answer stays as it was, whatever is done afterwards.
func TestAnswersStay(t *testing.T) {
	d := of(t, some)
	names, _ := d.List("a")
	l, _ := d.Tree("")
	text, _ := d.Read("f")
	e, _ := d.Look("f")
	for _, more := range []string{"1", "22", strings.Repeat("3", 1000)} {
		is(t, "Append", d.Append("f", more), 0)
	}
	is(t, "Create", d.Create("f"), 0)
	is(t, "Append", d.Append("f", "TEXT and more"), 0)
	is(t, "Append", d.Append("a/g", "NEW"), 0)
	is(t, "Remove", d.Remove("a/l"), 0)
	is(t, "Make", d.Make("a/aa"), 0)
	is(t, "Rename", d.Rename("a", "z"), 0)
	if fmt.Sprint(names) != "[b e g l]" || words(l) != "/ "+some || text != "text" || short(e) != "f=text" {
		t.Error(names, words(l), text, e)
	}
}

// P2: bytes behind those that a Clone has are not met by it, whichever of many is written to.
func TestClonesOfClones(t *testing.T) {
	next := steps(30)
	all := []*Table{with(t, api.MaxNumber, 10)}
	is(t, "Create", all[0].Create("f"), 0)
	wants := []string{""}
	for range 3000 {
		i := next.below(len(all))
		switch next.below(8) {
		case 0:
			if len(all) < 40 {
				all, wants = append(all, all[i].Clone()), append(wants, wants[i])
			}
		case 1:
			if next.below(4) == 0 {
				is(t, "Create", all[i].Create("f"), 0)
				wants[i] = ""
			}
		default:
			more := strings.Repeat(string(rune('a'+next.below(26))), next.below(9))
			is(t, "Append", all[i].Append("f", more), 0)
			wants[i] += more
		}
		j := next.below(len(all))
		if text, err := all[j].Read("f"); text != wants[j] || err != nil {
			t.Fatalf("%d: %q, not %q, %v", j, text, wants[j], err)
		}
	}
	for i, d := range all {
		if text, err := d.Read("f"); text != wants[i] || err != nil {
			t.Fatalf("%d: %q, not %q, %v", i, text, wants[i], err)
		}
	}
}

// P2: what a call on one file system answers hangs on the calls on that one alone.
func TestSystemsStandAlone(t *testing.T) {
	run := func(seed uint64) string {
		next := steps(seed)
		d := with(t, 5000, 30)
		text := ""
		for range 200 {
			c := someCall(&next)
			text += fmt.Sprint(number(c.err(d)), asked(d, c.path))
		}
		return text + told(d)
	}
	var wants []string
	for seed := range 8 {
		wants = append(wants, run(uint64(seed)))
	}
	var all sync.WaitGroup
	for seed, want := range wants {
		all.Go(func() {
			for range 5 {
				if got := run(uint64(seed)); got != want {
					t.Error("at the same time", seed)
				}
			}
		})
	}
	all.Wait()
}

// P2: calls that ask, of one file system at the same time, change nothing.
func TestAskedAtTheSameTime(t *testing.T) {
	d := of(t, some)
	all := func() string {
		text := told(d.Clone())
		for _, p := range []string{"", "a", "a/b", "f", "l", "q", "f/x", "a//b"} {
			text += asked(d, p)
		}
		return text
	}
	want := all()
	var done sync.WaitGroup
	for range 8 {
		done.Go(func() {
			for range 100 {
				if all() != want {
					t.Error("at the same time")
					return
				}
			}
		})
	}
	done.Wait()
}

// P1: no call panics, whatever it is given.
func TestNothingPanics(t *testing.T) {
	odd := []string{"", "/", "//", ".", "..", "\x00", "a\x00", "\xff", "a/", "/a", "a/..", strings.Repeat("/", 5000), strings.Repeat("a/", 5000), strings.Repeat("n", 1<<20), deep(64), deep(65), pathOf(4096, 17), pathOf(4097, 17), "a", "a/b", "f", "l"}
	for _, bytes := range []int{math.MinInt, -1, 0, 1, 1000, api.MaxNumber, math.MaxInt} {
		for _, nodes := range []int{math.MinInt, -1, 0, 1, 10, api.MaxNodes, math.MaxInt} {
			d, err := New(bytes, nodes)
			if err != nil {
				continue
			}
			f := newFlat(bytes, nodes)
			for _, word := range []string{"a/", "f=x", "l>y"} {
				if first, second := enter(d, word), enter(f, word); number(first) != number(second) {
					t.Error(word, first, second)
				}
			}
			for _, p := range odd {
				for _, name := range changing {
					for _, text := range odd {
						c := call{name, p, text}
						if first, second := c.err(d), c.err(f); number(first) != number(second) {
							t.Errorf("%s %.30q %.30q: %v, not %v", name, p, text, first, second)
						}
					}
				}
				if asked(d, p) != asked(f, p) {
					t.Errorf("at %.30q", p)
				}
			}
			if told(d) != told(f) {
				t.Error(told(d), told(f))
			}
		}
	}
}

// soon fails where a call takes long.
func soon(t *testing.T, what string, call func()) {
	t.Helper()
	done := make(chan struct{})
	go func() {
		defer close(done)
		call()
	}()
	select {
	case <-done:
	case <-time.After(30 * time.Second):
		t.Fatal(what, "takes too long")
	}
}

// P1: as many nodes as may be, in one directory and in many, are made, told, renamed and removed soon.
func TestManyNodes(t *testing.T) {
	const most = 1 << 16
	d := with(t, api.MaxNumber, most)
	soon(t, "many nodes", func() {
		is(t, "Make", d.Make("d"), 0)
		for i := range most - 1 {
			is(t, "Create", d.Create(fmt.Sprint("d/", i)), 0)
		}
		is(t, "one node more", d.Create("d/x"), api.ErrQuota)
		is(t, "one node more", d.Make("x"), api.ErrQuota)
		is(t, "one node more", d.Link("x", "x"), api.ErrQuota)
		l, err := d.Tree("")
		if len(l) != most+1 || err != nil || l[2].Path != "d/0" || l[3].Path != "d/1" || l[4].Path != "d/10" {
			t.Error(len(l), err)
		}
		names, err := d.List("d")
		if len(names) != most-1 || err != nil || !slices.IsSorted(names) {
			t.Error(len(names), err)
		}
		c := d.Clone()
		for range 100 {
			is(t, "Rename", c.Rename("d", "e"), 0)
			is(t, "Rename", c.Rename("e", "d"), 0)
		}
		for _, name := range names {
			is(t, "Remove", c.Remove("d/"+name), 0)
		}
		is(t, "Remove", c.Remove("d"), 0)
		holds(t, c, "0 0")
		if bytes, nodes := d.Used(); bytes != 0 || nodes != most {
			t.Error(bytes, nodes)
		}
	})
}

// P1: directories as deep as may be, many of them, are told soon.
func TestDeepNodes(t *testing.T) {
	d := with(t, 0, 1<<16)
	soon(t, "deep nodes", func() {
		for i := range 1000 {
			makeAll(t, d, fmt.Sprint(i, "/", deep(63)))
		}
		for range 10 {
			if l, err := d.Tree(""); len(l) != 64001 || err != nil {
				t.Error(len(l), err)
			}
			if bytes, nodes := d.Clone().Used(); bytes != 0 || nodes != 64000 {
				t.Error(bytes, nodes)
			}
		}
		is(t, "Rename", d.Rename("5/n", "x"), 0)
		is(t, "Rename", d.Rename("x", "6/x"), 0)
		is(t, "Rename", d.Rename("6/x", "7/n/x"), api.ErrLong)
	})
}

// P1: many short pieces put behind one another are put there soon, and read soon.
func TestManyAppends(t *testing.T) {
	d := of(t, "f=")
	soon(t, "many appends", func() {
		for i := range 1 << 22 {
			if err := d.Append("f", "x"); err != nil {
				t.Fatal(i, err)
			}
			if text, err := d.Read("f"); len(text) != i+1 || err != nil {
				t.Fatal(i, len(text), err)
			}
		}
		is(t, "one more", d.Append("f", "x"), api.ErrLong)
		if text, err := d.Read("f"); text != strings.Repeat("x", 1<<22) || err != nil {
			t.Error(len(text), err)
		}
	})
}

// the chapter's examples.
func TestExamples(t *testing.T) {
	d := with(t, 100, 10)
	is(t, "Make", d.Make("a"), 0)
	is(t, "Make", d.Make("a/b"), 0)
	is(t, "Create", d.Create("a/b/f"), 0)
	is(t, "Append", d.Append("a/b/f", "hi"), 0)
	if l, err := d.Tree(""); words(l) != "/ a/ a/b/ a/b/f=hi" || err != nil {
		t.Error(l, err)
	}
	if bytes, nodes := d.Used(); bytes != 2 || nodes != 3 {
		t.Error(bytes, nodes)
	}
	is(t, "Rename", d.Rename("a", "a/b/c"), api.ErrInside)
	is(t, "Link", d.Link("b", "a/l"), 0)
	fails(t, d, "Read", api.ErrLink, "a/l")
	is(t, "Make", d.Make("a/l/x"), api.ErrLink)
	is(t, "Make", d.Make("a/b/f/x"), api.ErrFile)
	is(t, "Make", d.Make("q/x"), api.ErrNone)
	is(t, "Rename", d.Rename("a/l", "a/b/f"), 0)
	holds(t, d, "a/ a/b/ a/b/f>b 1 3")
}
