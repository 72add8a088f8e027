package patience

import (
	"math"
	"selvage/api"
	"slices"
	"testing"
)

// PN1, PN2, PN3: the chapter's examples.
func TestExamples(t *testing.T) {
	if got := Anchors([]int{1, 2, 3, 2}, []int{3, 1, 4}); !slices.Equal(got, [][2]int{{0, 1}, {2, 0}}) {
		t.Error(got)
	}
	for _, c := range []struct{ l, want []int }{
		{[]int{3, 1, 2, 0, 4}, []int{1, 2, 4}},
		{[]int{2, 1}, []int{0}},
		{[]int{5, 5}, []int{0}},
	} {
		if got := Rising(c.l); !slices.Equal(got, c.want) {
			t.Error(c.l, got)
		}
	}
	if got := Diff([]int{1, 2, 3}, []int{1, 3}); !slices.Equal(got, []api.Change{{A: 1, N: 1, B: 1, M: 0}}) {
		t.Error(got)
	}
}

// PN1: the edges that the chapter names.
func TestAnchors(t *testing.T) {
	const least, greatest = math.MinInt, math.MaxInt
	for _, c := range []struct {
		what string
		a, b []int
		want [][2]int
	}{
		{"both empty", nil, []int{}, nil},
		{"one empty", []int{1, 2}, nil, nil},
		{"the other empty", nil, []int{1, 2}, nil},
		{"one of one", []int{7}, []int{7}, [][2]int{{0, 0}}},
		{"one and another", []int{7}, []int{8}, nil},
		{"nothing in common", []int{1, 2, 3}, []int{4, 5}, nil},
		{"alike", []int{1, 2, 3}, []int{1, 2, 3}, [][2]int{{0, 0}, {1, 1}, {2, 2}}},
		{"turned round", []int{1, 2, 3}, []int{3, 2, 1}, [][2]int{{0, 2}, {1, 1}, {2, 0}}},
		{"in the order of a, not of b or of the numbers", []int{5, 9, 1, 7}, []int{7, 1, 5, 9}, [][2]int{{0, 2}, {1, 3}, {2, 1}, {3, 0}}},
		{"twice in a", []int{1, 2, 1}, []int{1, 2}, [][2]int{{1, 1}}},
		{"twice in b", []int{1, 2}, []int{1, 2, 1}, [][2]int{{1, 1}}},
		{"twice in both", []int{1, 2, 1}, []int{1, 1, 2}, [][2]int{{1, 2}}},
		{"twice in each, side by side", []int{1, 1}, []int{1, 1}, nil},
		{"twice in a, not in b", []int{1, 1, 2}, []int{2}, [][2]int{{2, 0}}},
		{"many times", []int{4, 4, 4, 4, 8, 4, 4, 4}, []int{4, 4, 8, 4, 4}, [][2]int{{4, 2}}},
		{"three times here, once there", []int{4, 4, 4}, []int{4}, nil},
		{"once here, three times there", []int{4}, []int{4, 4, 4}, nil},
		{"any ints", []int{least, 0, greatest, -1}, []int{-1, greatest, least}, [][2]int{{0, 2}, {2, 1}, {3, 0}}},
		{"the least and the greatest twice", []int{least, greatest, least}, []int{greatest, least, greatest}, nil},
		{"alike but for the upper half", []int{5, 5 + 1<<32}, []int{5 + 1<<32, 5 + 1<<33}, [][2]int{{1, 0}}},
	} {
		if got := plainAnchors(c.a, c.b); !slices.Equal(got, c.want) {
			t.Errorf("%s: the plain count finds %v, not %v", c.what, got, c.want)
		}
		if got := Anchors(c.a, c.b); !slices.Equal(got, c.want) {
			t.Errorf("%s: %v, not %v", c.what, got, c.want)
		}
	}
}

// anchored holds Anchors of two rows: what PN4 says of them, and those that were counted.
func anchored(t *testing.T, a, b []int, want [][2]int) {
	t.Helper()
	got := Anchors(a, b)
	for i, p := range got {
		if i > 0 && p[0] <= got[i-1][0] {
			t.Fatalf("Anchors of %v, %v: %v: they do not rise", a, b, got)
		}
		if a[p[0]] != b[p[1]] {
			t.Fatalf("Anchors of %v, %v: %v: unlike numbers", a, b, got)
		}
	}
	if !slices.Equal(got, want) {
		t.Fatalf("Anchors of %v, %v: %v, not %v", a, b, got, want)
	}
}

// PN1, PN4: all small rows.
func TestAnchorsOfAllSmall(t *testing.T) {
	for _, all := range [][][]int{rows(4, 3), rows(3, 5), rows(6, 2), orders(4)} {
		for _, a := range all {
			for _, b := range all {
				anchored(t, a, b, plainAnchors(a, b))
			}
		}
	}
}

// PN1, PN4: longer rows, and rows of thousands of numbers.
func TestAnchorsOfLongerRows(t *testing.T) {
	next := steps(1)
	for _, kinds := range []int{1, 20, 100, 1000} {
		for range 40 {
			a, b := next.thrown(next.below(120), kinds), next.thrown(next.below(120), kinds)
			anchored(t, a, b, plainAnchors(a, b))
			b = next.mixed(a)
			anchored(t, a, b, plainAnchors(a, b))
		}
	}
	for _, kinds := range []int{100, 3000, 1 << 40} {
		a, b := next.thrown(9000, kinds), next.thrown(8000, kinds)
		anchored(t, a, b, countedAnchors(a, b))
		b = next.touched(next.mixed(a), 9, kinds)
		anchored(t, a, b, countedAnchors(a, b))
	}
}

// PN2: the edges that the chapter names.
func TestRising(t *testing.T) {
	const least, greatest = math.MinInt, math.MaxInt
	for _, c := range []struct {
		what    string
		l, want []int
	}{
		{"nothing", nil, nil},
		{"one", []int{7}, []int{0}},
		{"rising", []int{1, 2, 5, 9}, []int{0, 1, 2, 3}},
		{"falling", []int{9, 5, 2, 1}, []int{0}},
		{"all equal", []int{4, 4, 4, 4}, []int{0}},
		{"equal ones are not greater", []int{1, 1, 2, 2, 3, 3}, []int{0, 2, 4}},
		{"the last place the least", []int{1, 5, 4, 3}, []int{0, 1}},
		{"the last place the least, whatever the others are", []int{5, 6, 1, 2}, []int{0, 1}},
		{"then the last but one", []int{1, 4, 3, 2, 5}, []int{0, 1, 4}},
		{"then the one ahead of it", []int{3, 2, 1, 6, 5, 9}, []int{0, 3, 5}},
		{"the last but one has to be less than the last", []int{1, 9, 5, 6}, []int{0, 2, 3}},
		{"the least last place bars lesser ones", []int{5, 1, 6, 2, 7, 3, 4}, []int{1, 3, 5, 6}},
		{"a longer one further behind", []int{7, 8, 1, 2, 3}, []int{2, 3, 4}},
		{"equal ones on one pile", []int{2, 2, 1, 3, 3}, []int{0, 3}},
		{"any ints", []int{greatest, least, 0, greatest, -1}, []int{1, 2, 3}},
		{"the greatest, then the least", []int{greatest, least}, []int{0}},
		{"the least, then the greatest", []int{least, greatest}, []int{0, 1}},
		{"the least twice, the greatest twice", []int{least, least, greatest, greatest}, []int{0, 2}},
	} {
		if got := foundRising(c.l); !slices.Equal(got, c.want) {
			t.Errorf("%s: the plain search finds %v, not %v", c.what, got, c.want)
		}
		if got := Rising(c.l); !slices.Equal(got, c.want) {
			t.Errorf("%s: %v, not %v", c.what, got, c.want)
		}
	}
}

// risen holds Rising of a list: what PN4 says of it, and the row that was found.
func risen(t *testing.T, l, want []int) {
	t.Helper()
	got := Rising(l)
	for k, place := range got {
		if place < 0 || place >= len(l) {
			t.Fatalf("Rising of %v: %v: a place that is none", l, got)
		}
		if k > 0 && (place <= got[k-1] || l[place] <= l[got[k-1]]) {
			t.Fatalf("Rising of %v: %v: it does not rise", l, got)
		}
	}
	if !slices.Equal(got, want) {
		t.Fatalf("Rising of %v: %v, not %v", l, got, want)
	}
}

// PN2, PN4: all small lists, equal elements among them, and all orders of a few.
func TestRisingOfAllSmall(t *testing.T) {
	for _, all := range [][][]int{rows(6, 4), rows(9, 2), rows(5, 5), orders(7)} {
		for _, l := range all {
			want := foundRising(l)
			risen(t, l, want)
			if plain := plainRising(l); !slices.Equal(plain, want) {
				t.Fatalf("%v: %v, but plainly %v", l, want, plain)
			}
		}
	}
}

// PN2, PN4: longer lists, and lists of thousands of elements.
func TestRisingOfLongerLists(t *testing.T) {
	next := steps(2)
	for _, kinds := range []int{2, 9, 60, 1000, 1 << 40} {
		for range 60 {
			l := next.thrown(next.below(200), kinds)
			risen(t, l, plainRising(l))
		}
		l := next.thrown(3000, kinds)
		risen(t, l, plainRising(l))
		l = next.touched(upward(0, 3000), 2, kinds)
		risen(t, l, plainRising(l))
	}
	for _, l := range [][]int{
		with(upward(0, 900), upward(300, 900), upward(100, 900)),
		with(turned(upward(0, 900)), upward(0, 900), turned(upward(0, 900))),
		next.mixed(with(upward(0, 1000), upward(0, 1000))),
	} {
		risen(t, l, plainRising(l))
	}
}

// PN1, PN2, PN3: rows of MaxBytes elements, and of one more.
func TestLimits(t *testing.T) {
	const most = api.MaxBytes
	full, over := upward(0, most), upward(0, most+1)
	if got := Rising(full); !slices.Equal(got, full) {
		t.Error("rising:", len(got))
	}
	if got := Rising(turned(full)); !slices.Equal(got, []int{0}) {
		t.Error("falling:", len(got))
	}
	if got := Rising(over); len(got) != 0 {
		t.Error("one more rising:", len(got))
	}
	if got := Rising(make([]int, most+1)); len(got) != 0 {
		t.Error("one more equal:", len(got))
	}
	moved := with(full[1:], []int{0})
	got := Anchors(full, moved)
	if len(got) != most || got[0] != [2]int{0, most - 1} || got[1] != [2]int{1, 0} || got[most-1] != [2]int{most - 1, most - 2} {
		t.Error("anchors:", len(got))
	}
	if got := Diff(full, moved); !slices.Equal(got, []api.Change{{N: 1}, {A: most, B: most - 1, M: 1}}) {
		t.Error("the first one to the end:", len(got))
	}
	if got := Diff(full, nil); !slices.Equal(got, []api.Change{{N: most}}) {
		t.Error("to nothing:", got)
	}
	if got := Diff(nil, full); !slices.Equal(got, []api.Change{{M: most}}) {
		t.Error("from nothing:", got)
	}
	for _, p := range [][2][]int{{over, {5}}, {{5}, over}, {over, nil}, {nil, over}, {over, over}, {over, full}, {full, over}, {over, moved}} {
		if got := Anchors(p[0], p[1]); len(got) != 0 {
			t.Error("anchors of", len(p[0]), len(p[1]), "numbers:", len(got))
		}
		if got := Diff(p[0], p[1]); len(got) != 0 {
			t.Error("diff of", len(p[0]), len(p[1]), "numbers:", len(got))
		}
	}
}
