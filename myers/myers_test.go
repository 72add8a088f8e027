package myers

import (
	"math"
	"selvage/api"
	"selvage/edits"
	"slices"
	"testing"
)

// rows are all rows of at most so many numbers below kinds.
func rows(most, kinds int) [][]int {
	all := [][]int{nil}
	for from := 0; most > 0; most-- {
		end := len(all)
		for _, row := range all[from:end] {
			for v := range kinds {
				all = append(all, append(slices.Clone(row), v))
			}
		}
		from = end
	}
	return all
}

// rising is a row of n numbers, one behind the other.
func rising(from, n int) []int {
	row := make([]int, n)
	for i := range row {
		row[i] = from + i
	}
	return row
}

// turned is a row the other way round.
func turned(row []int) []int {
	row = slices.Clone(row)
	slices.Reverse(row)
	return row
}

// with is several rows as one.
func with(rows ...[]int) []int {
	return slices.Concat(rows...)
}

// steps are numbers that look like thrown ones, and are the same in each run.
type steps uint64

// below is the next one, from 0 to n - 1.
func (s *steps) below(n int) int {
	*s = *s*6364136223846793005 + 1442695040888963407
	return int(uint64(*s)>>33) % n
}

// thrown is a row of n numbers below kinds.
func (s *steps) thrown(n, kinds int) []int {
	row := make([]int, n)
	for i := range row {
		row[i] = s.below(kinds)
	}
	return row
}

// mixed is a row's numbers in another order.
func (s *steps) mixed(row []int) []int {
	row = slices.Clone(row)
	for i := range row {
		j := i + s.below(len(row)-i)
		row[i], row[j] = row[j], row[i]
	}
	return row
}

// touched is a row with some of its numbers left out, exchanged, or followed by another one: one of every so many.
func (s *steps) touched(row []int, every, kinds int) []int {
	var made []int
	for _, v := range row {
		switch s.below(3 * every) {
		case 0:
		case 1:
			made = append(made, s.below(kinds))
		case 2:
			made = append(made, v, s.below(kinds))
		default:
			made = append(made, v)
		}
	}
	return made
}

// refDistance is how few steps lead from the beginnings of two rows to their ends, by going through all places, the nearest ones first: past the same number on both sides for nothing, past a number of one side for one step.
func refDistance(a, b []int) int {
	seen := make([]bool, (len(a)+1)*(len(b)+1))
	near := [][2]int{{0, 0}}
	for d := 0; ; d++ {
		var far [][2]int
		for len(near) > 0 {
			p := near[len(near)-1]
			near = near[:len(near)-1]
			x, y := p[0], p[1]
			if x > len(a) || y > len(b) || seen[x*(len(b)+1)+y] {
				continue
			}
			seen[x*(len(b)+1)+y] = true
			if x == len(a) && y == len(b) {
				return d
			}
			if x < len(a) && y < len(b) && a[x] == b[y] {
				near = append(near, [2]int{x + 1, y + 1})
			}
			far = append(far, [2]int{x + 1, y}, [2]int{x, y + 1})
		}
		near = far
	}
}

// isWithin tells whether a row's numbers stand in another one, in order.
func isWithin(row, in []int) bool {
	for _, v := range in {
		if len(row) > 0 && row[0] == v {
			row = row[1:]
		}
	}
	return len(row) == 0
}

// refCommon is the length of the longest of all rows that are left of a by leaving numbers out, and stand in b in order.
func refCommon(a, b []int) int {
	most := 0
	for set := range 1 << len(a) {
		var left []int
		for i, v := range a {
			if set>>i&1 == 1 {
				left = append(left, v)
			}
		}
		if len(left) > most && isWithin(left, b) {
			most = len(left)
		}
	}
	return most
}

// tableCommon is the length of a longest common subsequence of longer rows, by the table of all their beginnings, two lines of which are kept.
func tableCommon(a, b []int) int {
	above, line := make([]int, len(b)+1), make([]int, len(b)+1)
	for _, v := range a {
		for j, w := range b {
			if v == w {
				line[j+1] = above[j] + 1
			} else {
				line[j+1] = max(line[j], above[j+1])
			}
		}
		above, line = line, above
	}
	return above[len(b)]
}

// isScript holds changes by the chapter's words: an edit script from a to b that is normal and fits.
func isScript(t *testing.T, s []api.Change, a, b []int) {
	t.Helper()
	// The ends of both rows are as a change of nothing.
	x, y := 0, 0
	for i, c := range append(slices.Clone(s), api.Change{A: len(a), B: len(b)}) {
		last := i == len(s)
		switch {
		case c.A < x || c.B < y || c.N < 0 || c.M < 0 || c.A+c.N > len(a) || c.B+c.M > len(b):
			t.Fatalf("%v, %v: %v: a place that can't be", a, b, s)
		case !last && c.N == 0 && c.M == 0:
			t.Fatalf("%v, %v: %v: a change of nothing", a, b, s)
		case c.A-x != c.B-y:
			t.Fatalf("%v, %v: %v: not as many that stay", a, b, s)
		case i > 0 && !last && c.A == x:
			t.Fatalf("%v, %v: %v: changes that touch", a, b, s)
		case !slices.Equal(a[x:c.A], b[y:c.B]):
			t.Fatalf("%v, %v: %v: unlike numbers that stay", a, b, s)
		}
		x, y = c.A+c.N, c.B+c.M
	}
}

// inEdits holds a script against what layer 6 says of it.
func inEdits(t *testing.T, s []api.Change, a, b []int) {
	t.Helper()
	if err := edits.Fits(s, a, b); err != nil {
		t.Fatalf("%v, %v: %v: Fits: %v", a, b, s, err)
	}
	if normal, err := edits.Normal(s, len(a), len(b)); err != nil || !slices.Equal(normal, s) {
		t.Fatalf("%v, %v: %v: Normal: %v %v", a, b, s, normal, err)
	}
	if made, err := edits.Apply(s, a, b); err != nil || !slices.Equal(made, b) {
		t.Fatalf("%v, %v: %v: Apply: %v %v", a, b, s, made, err)
	}
}

// deleted is how many numbers changes delete and insert together.
func deleted(s []api.Change) int {
	sum := 0
	for _, c := range s {
		sum += c.N + c.M
	}
	return sum
}

// holds holds all three calls, and what they say of each other, where the distance is known.
func holds(t *testing.T, a, b []int, distance int) {
	t.Helper()
	s := Diff(a, b)
	isScript(t, s, a, b)
	inEdits(t, s, a, b)
	if got := deleted(s); got != distance {
		t.Fatalf("Diff of %v, %v: %v: %d, not %d", a, b, s, got, distance)
	}
	if got := Distance(a, b); got != distance {
		t.Fatalf("Distance of %v, %v: %d, not %d", a, b, got, distance)
	}
	if got := Common(a, b); 2*got != len(a)+len(b)-distance {
		t.Fatalf("Common of %v, %v: %d, with a distance of %d", a, b, got, distance)
	}
	if again := Diff(a, b); !slices.Equal(again, s) {
		t.Fatalf("Diff of %v, %v: %v, then %v", a, b, s, again)
	}
}

// MY1, MY2: the chapter's examples.
func TestExamples(t *testing.T) {
	if s := Diff([]int{1, 2, 3}, []int{1, 3}); !slices.Equal(s, []api.Change{{A: 1, N: 1, B: 1, M: 0}}) {
		t.Error(s)
	}
	if s := Diff([]int{}, []int{5, 6}); !slices.Equal(s, []api.Change{{A: 0, N: 0, B: 0, M: 2}}) {
		t.Error(s)
	}
	a, b := []int{1, 2, 3, 1, 2, 2, 1}, []int{3, 2, 1, 2, 1, 3}
	holds(t, a, b, 5)
	if got := Common(a, b); got != 4 {
		t.Error(got)
	}
}

// known is two rows of which there is just one shortest script that is normal.
type known struct {
	what string
	a, b []int
	want [][4]int // A, N, B, M
}

func (k known) check(t *testing.T) {
	t.Helper()
	var want []api.Change
	for _, c := range k.want {
		want = append(want, api.Change{A: c[0], N: c[1], B: c[2], M: c[3]})
	}
	if got := Diff(k.a, k.b); !slices.Equal(got, want) {
		t.Errorf("%s: %v, not %v", k.what, got, want)
	}
	if got := Diff(k.b, k.a); !slices.Equal(got, edits.Invert(want)) {
		t.Errorf("%s, the other way round: %v, not %v", k.what, got, edits.Invert(want))
	}
	holds(t, k.a, k.b, deleted(want))
	holds(t, k.b, k.a, deleted(want))
}

// MY1, MY2: the edges that the chapter names.
func TestDiff(t *testing.T) {
	some := []int{1, 2, 3, 4, 5}
	for _, k := range []known{
		{"both empty", nil, []int{}, nil},
		{"one empty", nil, []int{7}, [][4]int{{0, 0, 0, 1}}},
		{"one empty, the other long", []int{}, some, [][4]int{{0, 0, 0, 5}}},
		{"alike, of one", []int{7}, []int{7}, nil},
		{"alike", some, slices.Clone(some), nil},
		{"alike, the same number", []int{7, 7, 7}, []int{7, 7, 7}, nil},
		{"one and another one", []int{7}, []int{8}, [][4]int{{0, 1, 0, 1}}},
		{"nothing in common", some, []int{6, 7, 8}, [][4]int{{0, 5, 0, 3}}},
		{"a beginning", some[:2], some, [][4]int{{2, 0, 2, 3}}},
		{"an end", some[3:], some, [][4]int{{0, 0, 0, 3}}},
		{"a middle", some[1:3], some, [][4]int{{0, 0, 0, 1}, {2, 0, 3, 2}}},
		{"both ends", []int{1, 5}, some, [][4]int{{1, 0, 1, 3}}},
		{"every other one", []int{1, 3, 5}, some, [][4]int{{1, 0, 1, 1}, {2, 0, 3, 1}}},
		{"the others", []int{2, 4}, some, [][4]int{{0, 0, 0, 1}, {1, 0, 2, 1}, {2, 0, 4, 1}}},
		{"of one, the first", []int{1}, some, [][4]int{{1, 0, 1, 4}}},
		{"of one, within", []int{3}, some, [][4]int{{0, 0, 0, 2}, {1, 0, 3, 2}}},
		{"of one, the last", []int{5}, some, [][4]int{{0, 0, 0, 4}}},
		{"of one, not there", []int{6}, some, [][4]int{{0, 1, 0, 5}}},
		{"the same beginning", []int{1, 2, 3, 7}, []int{1, 2, 3, 8, 9}, [][4]int{{3, 1, 3, 2}}},
		{"the same end", []int{7, 1, 2, 3}, []int{8, 9, 1, 2, 3}, [][4]int{{0, 1, 0, 2}}},
		{"the same beginning and end", []int{1, 2, 7, 3, 4}, []int{1, 2, 8, 9, 3, 4}, [][4]int{{2, 1, 2, 2}}},
		{"the same within", []int{7, 1, 2, 8}, []int{9, 1, 2, 6}, [][4]int{{0, 1, 0, 1}, {3, 1, 3, 1}}},
		{"each second one other", []int{1, 7, 2, 7, 3}, []int{1, 8, 2, 8, 3}, [][4]int{{1, 1, 1, 1}, {3, 1, 3, 1}}},
		{"the first to the end", []int{1, 2, 3, 4}, []int{2, 3, 4, 1}, [][4]int{{0, 1, 0, 0}, {4, 0, 3, 1}}},
		{"the end ahead of a long beginning", []int{1, 2, 3, 8, 9}, []int{8, 9, 1, 2, 3}, [][4]int{{0, 0, 0, 2}, {3, 2, 5, 0}}},
		{"the least and the greatest", []int{math.MinInt, 0, math.MaxInt}, []int{math.MinInt, math.MaxInt}, [][4]int{{1, 1, 1, 0}}},
		{"the least for the greatest", []int{math.MinInt}, []int{math.MaxInt}, [][4]int{{0, 1, 0, 1}}},
		{"alike but for the upper half", []int{5, 5 + 1<<32, 6}, []int{5 + 1<<32, 6, 6 + 1<<32}, [][4]int{{0, 1, 0, 0}, {3, 0, 2, 1}}},
		{"below 0", []int{-1, -2, -3}, []int{-2, -3, 1}, [][4]int{{0, 1, 0, 0}, {3, 0, 2, 1}}},
	} {
		k.check(t)
	}
}

// MY1, MY2: rows whose distance is plain to see, though not the script.
func TestDistances(t *testing.T) {
	for _, c := range []struct {
		what     string
		a, b     []int
		distance int
	}{
		{"turned round, of two", []int{1, 2}, []int{2, 1}, 2},
		{"turned round", rising(0, 9), turned(rising(0, 9)), 16},
		{"turned round, the same to and fro", []int{1, 2, 3, 2, 1}, []int{1, 2, 3, 2, 1}, 0},
		{"turned round, of an even number", rising(0, 10), turned(rising(0, 10)), 18},
		{"the same number more often", []int{7, 7}, []int{7, 7, 7, 7, 7}, 3},
		{"one number among many of another", []int{7, 7, 8, 7}, []int{7, 7, 7, 7, 7}, 3},
		{"by turns", []int{1, 2, 1, 2, 1, 2}, []int{2, 1, 2, 1, 2, 1}, 2},
		{"by turns, less often", []int{1, 2, 1, 2, 1, 2}, []int{2, 2, 2, 1, 1, 1}, 6},
		{"halves exchanged", with(rising(0, 5), rising(5, 5)), with(rising(5, 5), rising(0, 5)), 10},
		{"twice", rising(0, 6), with(rising(0, 6), rising(0, 6)), 6},
		{"letters", []int{'k', 'i', 't', 't', 'e', 'n'}, []int{'s', 'i', 't', 't', 'i', 'n', 'g'}, 5},
		{"the way back is dear", []int{1, 2, 3, 4, 9, 9, 9}, []int{9, 9, 9, 1, 2, 3, 4}, 6},
		{"any ints", []int{math.MaxInt, math.MinInt, -1, 0, 1, math.MaxInt}, []int{math.MinInt, math.MaxInt, 1, 0, -1, math.MinInt}, 8},
	} {
		if got := refDistance(c.a, c.b); got != c.distance {
			t.Errorf("%s: the plain search finds %d, not %d", c.what, got, c.distance)
		}
		holds(t, c.a, c.b, c.distance)
		holds(t, c.b, c.a, c.distance)
	}
}

// ofAll holds each of some rows against each of others, by plain searches.
func ofAll(t *testing.T, rows, others [][]int) {
	t.Helper()
	for _, a := range rows {
		for _, b := range others {
			distance := refDistance(a, b)
			holds(t, a, b, distance)
			if got, want := Common(a, b), refCommon(a, b); got != want || tableCommon(a, b) != want {
				t.Fatalf("Common of %v, %v: %d, not %d", a, b, got, want)
			}
		}
	}
}

// MY1, MY2: all small rows, of few kinds of numbers.
func TestAllSmall(t *testing.T) {
	ofAll(t, rows(4, 3), rows(4, 3))
	ofAll(t, rows(6, 2), rows(6, 2))
	ofAll(t, rows(3, 4), rows(3, 4))
}

// MY1, MY2: all small rows of much unlike lengths.
func TestAllSmallOfUnlikeLengths(t *testing.T) {
	few, many := rows(2, 2), rows(9, 2)
	ofAll(t, few, many)
	ofAll(t, many, few)
}

// MY1, MY2: all orders of seven numbers, from the rising one.
func TestAllOrders(t *testing.T) {
	var orders [][]int
	var grow func(row []int)
	grow = func(row []int) {
		if len(row) == 7 {
			orders = append(orders, slices.Clone(row))
		}
		for v := range 7 {
			if !slices.Contains(row, v) {
				grow(append(row, v))
			}
		}
	}
	grow(nil)
	ofAll(t, [][]int{rising(0, 7)}, orders)
}

// MY1, MY2: any ints, and such that are alike in their lower halves: which numbers they are means nothing.
func TestAnyInts(t *testing.T) {
	odd := []int{math.MinInt, math.MaxInt, 0, -1, 1 << 32, 1<<32 - 1, math.MinInt32, math.MaxInt32, -1 << 32}
	next := steps(5)
	for range 3000 {
		a, b := next.thrown(next.below(9), len(odd)), next.thrown(next.below(9), len(odd))
		distance := refDistance(a, b)
		for _, row := range [][]int{a, b} {
			for i := range row {
				row[i] = odd[row[i]]
			}
		}
		holds(t, a, b, distance)
	}
}

// MY1, MY2: longer rows, of few and of many kinds of numbers, thrown, and touched here and there.
func TestLongerRows(t *testing.T) {
	next := steps(1)
	for _, kinds := range []int{1, 2, 3, 10, 100, 1000} {
		for range 60 {
			a := next.thrown(next.below(200), kinds)
			for _, b := range [][]int{
				next.thrown(next.below(200), kinds),
				next.touched(a, 20, kinds),
				next.touched(a, 3, kinds),
				next.mixed(a),
				turned(a),
				with(a, a),
				a[len(a)/3 : len(a)/2],
			} {
				holds(t, a, b, len(a)+len(b)-2*tableCommon(a, b))
			}
		}
	}
}

// MY1, MY2: rows one of which has numbers that the other has not, at its ends and everywhere.
func TestNumbersOfOneSide(t *testing.T) {
	next := steps(7)
	for range 400 {
		a, b := next.thrown(next.below(60), 5), next.thrown(next.below(60), 5)
		for i := range a {
			if next.below(3) == 0 {
				a[i] = 100 + next.below(4)
			}
		}
		for i := range b {
			if next.below(3) == 0 {
				b[i] = 200 + next.below(4)
			}
		}
		holds(t, a, b, len(a)+len(b)-2*tableCommon(a, b))
	}
}

// MY1, MY2: rows of thousands of numbers that are almost alike.
func TestThousandsAlmostAlike(t *testing.T) {
	next := steps(2)
	for _, kinds := range []int{3, 40, 100000} {
		a := next.thrown(5000, kinds)
		for _, every := range []int{1000, 100, 30} {
			b := next.touched(a, every, kinds)
			holds(t, a, b, len(a)+len(b)-2*tableCommon(a, b))
		}
	}
	a := rising(0, 9000)
	holds(t, a, with(a[1:4000], []int{-1}, a[4000:8000], a[8001:], []int{0}), 4)
	holds(t, a, a[1:], 1)
	holds(t, a, a[:8999], 1)
}

// MY1, MY2: rows of thousands of numbers that have little in common.
func TestThousandsWithLittleInCommon(t *testing.T) {
	next := steps(3)
	a := rising(0, 4000)
	holds(t, a, turned(a), 7998)
	holds(t, turned(a), a, 7998)
	mixed := next.mixed(a)
	holds(t, a, mixed, 8000-2*tableCommon(a, mixed))
	for _, kinds := range []int{2, 50, 3000} {
		a, b := next.thrown(3000, kinds), next.thrown(3500, kinds)
		holds(t, a, b, len(a)+len(b)-2*tableCommon(a, b))
	}
	few, many := next.thrown(20, 3), next.thrown(5000, 3)
	holds(t, few, many, 5020-2*tableCommon(few, many))
	holds(t, many, few, 5020-2*tableCommon(few, many))
	// but for one number nothing in common
	holds(t, with(rising(0, 3000), []int{-1}), with([]int{-1}, rising(5000, 3000)), 6000)
}

// MY3: what Distance is, of three rows each.
func TestDistanceOfThree(t *testing.T) {
	for _, all := range [][][]int{rows(3, 3), rows(4, 2)} {
		between := make([][]int, len(all))
		for i, a := range all {
			between[i] = make([]int, len(all))
			for j, b := range all {
				between[i][j] = Distance(a, b)
			}
		}
		for i := range all {
			for j := range all {
				d := between[i][j]
				if d != between[j][i] {
					t.Fatalf("%v, %v: %d, and %d the other way round", all[i], all[j], d, between[j][i])
				}
				for k := range all {
					if d > between[i][k]+between[k][j] {
						t.Fatalf("%v, %v: %d, less by way of %v", all[i], all[j], d, all[k])
					}
				}
			}
		}
	}
}

// alone holds what MY3 says of two rows.
func alone(t *testing.T, a, b []int) {
	t.Helper()
	d := Distance(a, b)
	apart := len(a) - len(b)
	if apart < 0 {
		apart = -apart
	}
	switch {
	case (d == 0) != slices.Equal(a, b):
		t.Fatalf("%v, %v: %d", a, b, d)
	case d < apart || d > len(a)+len(b):
		t.Fatalf("%v, %v: %d, with lengths %d apart", a, b, d, apart)
	case d%2 != apart%2:
		t.Fatalf("%v, %v: %d, with lengths %d apart", a, b, d, apart)
	case Distance(b, a) != d:
		t.Fatalf("%v, %v: %d, and %d the other way round", a, b, d, Distance(b, a))
	case Distance(turned(a), turned(b)) != d:
		t.Fatalf("%v, %v: %d, and %d turned", a, b, d, Distance(turned(a), turned(b)))
	}
}

// MY3: what Distance is, of two rows each; and by way of a third one, of longer rows.
func TestDistanceOfTwo(t *testing.T) {
	for _, a := range rows(4, 3) {
		for _, b := range rows(4, 3) {
			alone(t, a, b)
		}
	}
	next := steps(9)
	for range 300 {
		kinds := 1 + next.below(30)
		a, b := next.thrown(next.below(80), kinds), next.thrown(next.below(80), kinds)
		c := next.touched(a, 4, kinds)
		alone(t, a, b)
		alone(t, a, c)
		if d, by := Distance(a, b), Distance(a, c)+Distance(c, b); d > by {
			t.Fatalf("%v, %v: %d, but %d by way of %v", a, b, d, by, c)
		}
	}
}

// MY1, the chapter's head: a shortest way is halved where its halves are shortest ones too, and each has about half of the numbers.
func TestMiddle(t *testing.T) {
	all := rows(5, 3)
	for _, a := range all {
		for _, b := range all {
			if len(a) == 0 || len(b) == 0 || a[0] == b[0] {
				continue
			}
			x, y := middle(a, b, make([]reach, roomOf(a, b)))
			if half := (len(a) + len(b)) / 2; x < 0 || y < 0 || x > len(a) || y > len(b) || x+y < half || x+y > half+1 || x+y == len(a)+len(b) {
				t.Fatalf("%v, %v: %d %d", a, b, x, y)
			}
			if whole, halves := refDistance(a, b), refDistance(a[:x], b[:y])+refDistance(a[x:], b[y:]); whole != halves {
				t.Fatalf("%v, %v: %d %d: %d, not %d", a, b, x, y, halves, whole)
			}
		}
	}
}

// MY1: a number counts by what it is equal to alone: a script of rows told by other numbers is as short, and fits these.
func TestNumbersRenamed(t *testing.T) {
	next := steps(13)
	for range 200 {
		a, b := next.thrown(40, 6), next.thrown(40, 6)
		name := func(row []int) []int {
			named := slices.Clone(row)
			for i := range named {
				named[i] = 1000 - 7*named[i]
			}
			return named
		}
		s := Diff(name(a), name(b))
		isScript(t, s, a, b)
		if got, want := deleted(s), Distance(a, b); got != want {
			t.Fatalf("%v, %v: %v: %d, not %d", a, b, s, got, want)
		}
	}
}
