package patience

import (
	"math"
	"selvage/api"
	"selvage/edits"
	"slices"
	"testing"
)

// isScript holds changes by the words of chapter 6: an edit script from a to b that is normal and fits; and answers, by place in a, where in b a number stays, or -1.
func isScript(t *testing.T, s []api.Change, a, b []int) []int {
	t.Helper()
	stays := make([]int, len(a))
	for i := range stays {
		stays[i] = -1
	}
	// The ends of both rows are as a change of nothing.
	x, y := 0, 0
	for i, c := range append(slices.Clone(s), api.Change{A: len(a), B: len(b)}) {
		last := i == len(s)
		switch {
		case c.A < x || c.B < y || c.N < 0 || c.M < 0 || c.A+c.N > len(a) || c.B+c.M > len(b):
			t.Fatalf("%v, %v: %v: a place that can't be", a, b, s)
		case !last && c.N == 0 && c.M == 0:
			t.Fatalf("%v, %v: %v: a change of nothing", a, b, s)
		case c.A-x != c.B-y:
			t.Fatalf("%v, %v: %v: not as many that stay", a, b, s)
		case i > 0 && !last && c.A == x:
			t.Fatalf("%v, %v: %v: changes that touch", a, b, s)
		case !slices.Equal(a[x:c.A], b[y:c.B]):
			t.Fatalf("%v, %v: %v: unlike numbers that stay", a, b, s)
		}
		for ; x < c.A; x, y = x+1, y+1 {
			stays[x] = y
		}
		x, y = c.A+c.N, c.B+c.M
	}
	return stays
}

// inEdits holds a script against what layer 6 says of it.
func inEdits(t *testing.T, s []api.Change, a, b []int) {
	t.Helper()
	if err := edits.Fits(s, a, b); err != nil {
		t.Fatalf("%v, %v: %v: Fits: %v", a, b, s, err)
	}
	if normal, err := edits.Normal(s, len(a), len(b)); err != nil || !slices.Equal(normal, s) {
		t.Fatalf("%v, %v: %v: Normal: %v %v", a, b, s, normal, err)
	}
	if made, err := edits.Apply(s, a, b); err != nil || !slices.Equal(made, b) {
		t.Fatalf("%v, %v: %v: Apply: %v %v", a, b, s, made, err)
	}
}

// told goes through two rows by the words of PN3, and holds what stays of them.
type told struct {
	t     *testing.T
	a, b  []int
	stays []int // by place in a
	depth int   // how often pieces lie within one another, at most
	parts int   // how many without anchors there are
}

// must fails where a number of a does not stay at a place of b.
func (c *told) must(x, y int, why string) {
	c.t.Helper()
	if c.stays[x] != y {
		c.t.Fatalf("Diff of %v, %v: %s: the number at %d stays at %d, not at %d", c.a, c.b, why, x, c.stays[x], y)
	}
}

// count fails where not so many numbers stay of those of a from x up to toX.
func (c *told) count(x, toX, n int, why string) {
	c.t.Helper()
	got := toX - x - often(c.stays[x:toX], -1)
	if got != n {
		c.t.Fatalf("Diff of %v, %v: %s, from %d to %d: %d stay, not %d", c.a, c.b, why, x, toX, got, n)
	}
}

// part holds the part of a from x up to toX, and of b from y up to toY.
func (c *told) part(x, y, toX, toY, depth int) {
	c.t.Helper()
	c.depth = max(c.depth, depth)
	for x < toX && y < toY && c.a[x] == c.b[y] {
		c.must(x, y, "common beginning")
		x, y = x+1, y+1
	}
	for x < toX && y < toY && c.a[toX-1] == c.b[toY-1] {
		toX, toY = toX-1, toY-1
		c.must(toX, toY, "common end")
	}
	if x == toX || y == toY {
		c.count(x, toX, 0, "nothing on one side")
		return
	}
	anchors := countedAnchors(c.a[x:toX], c.b[y:toY])
	if len(anchors) == 0 {
		c.parts++
		c.count(x, toX, mostCommon(c.a[x:toX], c.b[y:toY]), "without anchors")
		return
	}
	var second []int
	for _, p := range anchors {
		second = append(second, p[1])
	}
	fromX, fromY := x, y
	for _, i := range plainRising(second) {
		atX, atY := x+anchors[i][0], y+anchors[i][1]
		c.must(atX, atY, "anchor")
		c.part(fromX, fromY, atX, atY, depth+1)
		fromX, fromY = atX+1, atY+1
	}
	c.part(fromX, fromY, toX, toY, depth+1)
}

// holds holds Diff of two rows: all that PN3 and PN4 ask of it.
func holds(t *testing.T, a, b []int) told {
	t.Helper()
	s := Diff(a, b)
	c := told{t: t, a: a, b: b, stays: isScript(t, s, a, b)}
	inEdits(t, s, a, b)
	c.part(0, 0, len(a), len(b), 0)
	stay := len(a) - often(c.stays, -1)
	most := mostCommon(a, b)
	if stay > most {
		t.Fatalf("Diff of %v, %v: %v: %d stay, more than %d", a, b, s, stay, most)
	}
	if stay < most && !standsTwice(a) && !standsTwice(b) {
		t.Fatalf("Diff of %v, %v: %v: %d stay, not %d, though no number stands twice", a, b, s, stay, most)
	}
	if again := Diff(a, b); !slices.Equal(again, s) {
		t.Fatalf("Diff of %v, %v: %v, then %v", a, b, s, again)
	}
	return c
}

// PN3: rows of which there is just one script that may be.
func TestDiff(t *testing.T) {
	some := []int{1, 2, 3, 4, 5}
	for _, c := range []struct {
		what string
		a, b []int
		want [][4]int // A, N, B, M
	}{
		{"both empty", nil, []int{}, nil},
		{"one empty", nil, some, [][4]int{{0, 0, 0, 5}}},
		{"the other empty", some, nil, [][4]int{{0, 5, 0, 0}}},
		{"alike, of one", []int{7}, []int{7}, nil},
		{"alike", some, slices.Clone(some), nil},
		{"alike, the same number", []int{7, 7, 7}, []int{7, 7, 7}, nil},
		{"one and another one", []int{7}, []int{8}, [][4]int{{0, 1, 0, 1}}},
		{"nothing in common", some, []int{6, 7, 8}, [][4]int{{0, 5, 0, 3}}},
		{"a beginning", some[:2], some, [][4]int{{2, 0, 2, 3}}},
		{"an end", some[3:], some, [][4]int{{0, 0, 0, 3}}},
		{"both ends", []int{1, 5}, some, [][4]int{{1, 0, 1, 3}}},
		{"a middle", some[1:3], some, [][4]int{{0, 0, 0, 1}, {2, 0, 3, 2}}},
		{"every other one", []int{1, 3, 5}, some, [][4]int{{1, 0, 1, 1}, {2, 0, 3, 1}}},
		{"the beginning is taken ahead of the end", []int{7, 7}, []int{7}, [][4]int{{1, 1, 1, 0}}},
		{"the beginning is taken ahead of the end, of more", []int{7, 7, 7}, []int{7, 7, 7, 7, 7}, [][4]int{{3, 0, 3, 2}}},
		{"an anchor stays, though more of the others could", []int{7, 7, 1, 8, 9}, []int{1, 7, 7, 9}, [][4]int{{0, 2, 0, 0}, {3, 1, 1, 2}}},
		{"anchors stay, though more of the others could", []int{4, 4, 4, 4, 1, 2, 5}, []int{6, 1, 2, 4, 4, 4, 4}, [][4]int{{0, 4, 0, 1}, {6, 1, 3, 4}}},
		{"anchors turned round: the first of them by places in b", []int{1, 2}, []int{2, 1}, [][4]int{{0, 0, 0, 1}, {1, 1, 2, 0}}},
		{"the row of anchors that is longest", []int{1, 2, 3, 4, 0}, []int{0, 2, 3, 4, 1}, [][4]int{{0, 1, 0, 1}, {4, 1, 4, 1}}},
		{"of as long ones that whose last is the first", []int{1, 2, 3, 4}, []int{3, 4, 1, 2}, [][4]int{{0, 0, 0, 2}, {2, 2, 4, 0}}},
		{"an anchor of a piece behind the last one", []int{5, 1, 7, 7, 5, 8}, []int{6, 1, 5, 7, 7, 9}, [][4]int{{0, 1, 0, 1}, {2, 2, 2, 0}, {5, 1, 3, 3}}},
		{"an anchor of a piece ahead of the first one", []int{8, 5, 7, 7, 1, 5}, []int{9, 7, 7, 5, 1, 6}, [][4]int{{0, 1, 0, 3}, {2, 2, 4, 0}, {5, 1, 5, 1}}},
		{"an anchor of a piece between two", []int{5, 1, 7, 7, 5, 8, 2}, []int{6, 1, 5, 7, 7, 9, 2, 3}, [][4]int{{0, 1, 0, 1}, {2, 2, 2, 0}, {5, 1, 3, 3}, {7, 0, 7, 1}}},
		{"a piece's common beginning and end", []int{5, 1, 6, 5, 7, 6, 2, 8}, []int{6, 1, 6, 6, 2, 5, 5}, [][4]int{{0, 1, 0, 1}, {3, 2, 3, 0}, {7, 1, 5, 2}}},
		{"without anchors", []int{1, 1, 2, 2, 2}, []int{2, 2, 2, 1, 1, 1}, [][4]int{{0, 2, 0, 0}, {5, 0, 3, 3}}},
		{"the least and the greatest", []int{math.MinInt, 0, math.MaxInt}, []int{math.MinInt, math.MaxInt}, [][4]int{{1, 1, 1, 0}}},
		{"the least for the greatest", []int{math.MinInt}, []int{math.MaxInt}, [][4]int{{0, 1, 0, 1}}},
		{"alike but for the upper half", []int{5, 5 + 1<<32, 6}, []int{5 + 1<<32, 6, 6 + 1<<32}, [][4]int{{0, 1, 0, 0}, {3, 0, 2, 1}}},
	} {
		var want []api.Change
		for _, n := range c.want {
			want = append(want, api.Change{A: n[0], N: n[1], B: n[2], M: n[3]})
		}
		if got := Diff(c.a, c.b); !slices.Equal(got, want) {
			t.Errorf("%s: %v, not %v", c.what, got, want)
		}
		holds(t, c.a, c.b)
		holds(t, c.b, c.a)
	}
}

// ofAll holds each of some rows against each of others.
func ofAll(t *testing.T, some, others [][]int) {
	t.Helper()
	for _, a := range some {
		for _, b := range others {
			holds(t, a, b)
		}
	}
}

// PN3, PN4: all small rows, of few kinds of numbers.
func TestDiffOfAllSmall(t *testing.T) {
	ofAll(t, rows(4, 3), rows(5, 3))
	ofAll(t, rows(5, 2), rows(6, 2))
	ofAll(t, rows(3, 4), rows(4, 4))
}

// PN4: all rows in which no number stands twice.
func TestDiffOfAllOrders(t *testing.T) {
	ofAll(t, [][]int{upward(0, 6), upward(2, 6), {1, 3, 5, 7}, {5, 0, 4}, nil}, orders(6))
	ofAll(t, orders(4), orders(4))
}

// PN3, PN4: longer rows, of few and of many kinds of numbers, thrown and touched here and there.
func TestDiffOfLongerRows(t *testing.T) {
	next := steps(3)
	for _, kinds := range []int{1, 2, 4, 7, 12, 20, 40, 1000} {
		for range 250 {
			a := next.thrown(next.below(40), kinds)
			for _, b := range [][]int{
				next.thrown(next.below(40), kinds),
				next.touched(a, 8, kinds),
				next.touched(a, 3, kinds),
				next.mixed(a),
				turned(a),
				with(a, a),
				a[len(a)/3 : len(a)/2],
			} {
				holds(t, a, b)
				holds(t, b, a)
			}
		}
	}
}

// PN3, PN4: any ints: which numbers they are means nothing.
func TestDiffOfAnyInts(t *testing.T) {
	odd := []int{math.MinInt, math.MaxInt, 0, -1, 1 << 32, 1<<32 - 1, math.MinInt32, math.MaxInt32, -1 << 32}
	next := steps(5)
	for range 3000 {
		a, b := next.thrown(next.below(12), len(odd)), next.thrown(next.below(12), len(odd))
		s := Diff(a, b)
		a, b = named(a, odd), named(b, odd)
		holds(t, a, b)
		if got := Diff(a, b); !slices.Equal(got, s) {
			t.Fatalf("%v, %v: %v, with other numbers %v", a, b, got, s)
		}
	}
}

// PN3, PN4: rows of thousands of numbers, with much and with little in common.
func TestDiffOfThousands(t *testing.T) {
	next := steps(7)
	for _, kinds := range []int{3, 60, 2000, 1 << 40} {
		a := next.thrown(2500, kinds)
		for _, every := range []int{400, 40, 4} {
			holds(t, a, next.touched(a, every, kinds))
		}
		holds(t, a, next.thrown(2600, kinds))
		holds(t, a, next.mixed(a))
	}
	a := upward(0, 3000)
	holds(t, a, turned(a))
	holds(t, a, next.mixed(a))
	holds(t, with(a[:1500], a[500:]), with(a, a[800:1200]))
}

// PN3: pieces that lie hundreds of times within one another, each held by the chapter's words.
func TestNestedPieces(t *testing.T) {
	for _, depth := range []int{1, 2, 3, 10, 700} {
		a, b, want := nested(depth)
		if got := Diff(a, b); !slices.Equal(got, want) {
			t.Errorf("%d: %v, not %v", depth, got, want)
		}
		if c := holds(t, a, b); c.depth < depth {
			t.Errorf("pieces lie within one another %d times, not %d", c.depth, depth)
		}
		holds(t, turned(a), turned(b))
		a, b = nestedByTurns(depth)
		if c := holds(t, a, b); c.depth < depth {
			t.Errorf("by turns: pieces lie within one another %d times, not %d", c.depth, depth)
		}
		holds(t, turned(a), b)
	}
}

// PN3: the like, touched here and there, so that pieces at all depths have other numbers, fewer or more of them, and no anchors.
func TestNestedPiecesTouched(t *testing.T) {
	next := steps(11)
	deepest, parts := 0, 0
	for range 300 {
		depth := 1 + next.below(60)
		a, b, _ := nested(depth)
		if next.below(2) == 0 {
			a, b = nestedByTurns(depth)
		}
		every := 2 + next.below(30)
		a, b = next.touched(a, every, depth+1), next.touched(b, every, depth+1)
		c := holds(t, a, b)
		deepest = max(deepest, c.depth)
		parts += c.parts
		holds(t, b, a)
		holds(t, a, turned(b))
	}
	if deepest < 30 || parts < 1000 {
		t.Error("too plain:", deepest, parts)
	}
}

// PN3: an anchor of a piece is one whatever stands around the piece, near it or far from it, on one side or on both.
func TestAnchorsOfPieces(t *testing.T) {
	const cut = 50 // stands once, and parts both rows
	for _, around := range [][]int{{3}, {3, 3}, {3, 9, 9}, {9, 9, 3}, {9, 3, 9, 3}} {
		for _, ends := range [][2][]int{{around, nil}, {nil, around}, {around, around}, {around, turned(around)}, {{8, 8}, around}} {
			for _, long := range []int{0, 1, 5, 40} {
				filled := func(v int) []int {
					row := make([]int, long)
					for i := range row {
						row[i] = v
					}
					return row
				}
				// 3 stands once on both sides of the piece, with numbers of its own on either side of it
				a := with([]int{-1}, filled(10), []int{3}, filled(11), []int{-2})
				b := with([]int{-3}, filled(12), []int{3}, filled(13), []int{-4})
				holds(t, with(ends[0], []int{cut}, a), with(ends[1], []int{cut}, b))
				holds(t, with(a, []int{cut}, ends[0]), with(b, []int{cut}, ends[1]))
				holds(t, with(ends[0], []int{cut}, a, []int{cut + 1}, ends[1]), with(ends[1], []int{cut}, b, []int{cut + 1}, ends[0]))
			}
		}
	}
}
