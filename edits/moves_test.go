package edits

import (
	"fmt"
	"math"
	"selvage/api"
	"slices"
	"testing"
)

// owners are, of each line of both texts, the number of the change that takes it out (that brings it in), or -1.
func owners(s []api.Change, n, m int) ([]int, []int) {
	ofA, ofB := slices.Repeat([]int{-1}, n), slices.Repeat([]int{-1}, m)
	for i, c := range s {
		for j := range c.N {
			ofA[c.A+j] = i
		}
		for j := range c.M {
			ofB[c.B+j] = i
		}
	}
	return ofA, ofB
}

// refMoves are found by the chapter's words: all blocks are looked at, anew for each move.
func refMoves(s []api.Change, a, b []int, least int) []Move {
	ofA, ofB := owners(refOf(refPairs(s, len(a), len(b)), len(a), len(b)), len(a), len(b))
	block := func(from, to int) int {
		n := 0
		for from+n < len(a) && to+n < len(b) && a[from+n] == b[to+n] &&
			ofA[from+n] >= 0 && ofA[from+n] == ofA[from] && ofB[to+n] >= 0 && ofB[to+n] == ofB[to] {
			n++
		}
		return n
	}
	var moves []Move
	for {
		var best Move
		for from := range a {
			for to := range b {
				if n := block(from, to); n > best.N {
					best = Move{from, to, n}
				}
			}
		}
		if best.N < least {
			break
		}
		moves = append(moves, best)
		for i := range best.N {
			ofA[best.From+i], ofB[best.To+i] = -1, -1
		}
	}
	slices.SortFunc(moves, func(v, w Move) int { return v.From - w.From })
	return moves
}

// movesOf is a script, two lists, a least, and the moves.
type movesOf struct {
	s     []api.Change
	a, b  []int
	least int
	want  []Move
}

func (c movesOf) check(t *testing.T) {
	t.Helper()
	got, err := Moves(c.s, c.a, c.b, c.least)
	if err != nil || !slices.Equal(got, c.want) {
		t.Errorf("Moves(%v, %v, %v, %d) = %v, %v, not %v", c.s, c.a, c.b, c.least, got, err, c.want)
	}
}

// E10: ordinary moves, and the edges that the chapter names.
func TestMoves(t *testing.T) {
	example := script([4]int{0, 2, 0, 0}, [4]int{4, 0, 2, 2})
	whole := func(n, m int) []api.Change { return script([4]int{0, n, 0, m}) }
	for _, c := range []movesOf{
		// the chapter's example, with each least
		{example, []int{1, 2, 3, 4}, []int{3, 4, 1, 2}, 1, []Move{{0, 2, 2}}},
		{example, []int{1, 2, 3, 4}, []int{3, 4, 1, 2}, 2, []Move{{0, 2, 2}}},
		{example, []int{1, 2, 3, 4}, []int{3, 4, 1, 2}, 3, nil},
		{example, []int{1, 2, 3, 4}, []int{3, 4, 1, 2}, math.MaxInt, nil},
		// no changes, and changes that take out, or bring in, alone
		{nil, nil, nil, 1, nil},
		{nil, []int{1, 2}, []int{1, 2}, 1, nil},
		{whole(3, 0), []int{1, 2, 3}, nil, 1, nil},
		{whole(0, 3), nil, []int{1, 2, 3}, 1, nil},
		// nothing comes again; lines that stay are in no move
		{whole(2, 2), []int{1, 2}, []int{3, 4}, 1, nil},
		{script([4]int{0, 1, 0, 0}), []int{1, 1, 1}, []int{1, 1}, 1, nil},
		{script([4]int{0, 1, 0, 1}), []int{1, 2, 3}, []int{2, 2, 3}, 1, nil},
		{script([4]int{2, 1, 2, 1}), []int{1, 2, 3}, []int{3, 3, 1}, 1, nil},
		// to another place, to an earlier one, within one change
		{script([4]int{0, 1, 0, 0}, [4]int{3, 0, 2, 1}), []int{7, 8, 9}, []int{8, 9, 7}, 1, []Move{{0, 2, 1}}},
		{script([4]int{0, 0, 0, 1}, [4]int{2, 1, 3, 0}), []int{8, 9, 7}, []int{7, 8, 9}, 1, []Move{{2, 0, 1}}},
		{whole(3, 3), []int{1, 2, 3}, []int{1, 2, 3}, 1, []Move{{0, 0, 3}}},
		{whole(3, 3), []int{1, 2, 3}, []int{3, 1, 2}, 1, []Move{{0, 1, 2}, {2, 0, 1}}},
		{whole(3, 3), []int{1, 2, 3}, []int{3, 1, 2}, 2, []Move{{0, 1, 2}}},
		{whole(3, 3), []int{1, 2, 3}, []int{3, 2, 1}, 1, []Move{{0, 2, 1}, {1, 1, 1}, {2, 0, 1}}},
		// the longest one goes first, whichever From it has
		{whole(5, 5), []int{1, 2, 1, 2, 3}, []int{1, 2, 3, 9, 9}, 1, []Move{{2, 0, 3}}},
		{whole(5, 6), []int{1, 2, 1, 2, 3}, []int{1, 2, 3, 9, 1, 2}, 1, []Move{{0, 4, 2}, {2, 0, 3}}},
		// of one length: the least From, and of these the least To
		{whole(3, 1), []int{4, 5, 4}, []int{4}, 1, []Move{{0, 0, 1}}},
		{whole(1, 3), []int{4}, []int{5, 4, 4}, 1, []Move{{0, 1, 1}}},
		{whole(5, 4), []int{4, 5, 9, 4, 5}, []int{8, 4, 5, 8}, 2, []Move{{0, 1, 2}}},
		{whole(4, 5), []int{8, 4, 5, 8}, []int{4, 5, 9, 4, 5}, 2, []Move{{1, 0, 2}}},
		{whole(5, 5), []int{4, 5, 9, 4, 5}, []int{4, 5, 7, 4, 5}, 1, []Move{{0, 0, 2}, {3, 3, 2}}},
		{whole(4, 4), []int{1, 2, 3, 4}, []int{3, 4, 1, 2}, 1, []Move{{0, 2, 2}, {2, 0, 2}}},
		// blocks that overlap: one of them takes its lines from the other
		{whole(3, 4), []int{1, 2, 3}, []int{2, 3, 1, 2}, 1, []Move{{0, 2, 2}, {2, 1, 1}}},
		{whole(3, 4), []int{1, 2, 3}, []int{2, 3, 1, 2}, 2, []Move{{0, 2, 2}}},
		{whole(4, 3), []int{2, 3, 1, 2}, []int{1, 2, 3}, 1, []Move{{0, 1, 2}, {2, 0, 1}}},
		{whole(3, 3), []int{1, 1, 1}, []int{1, 1, 1}, 1, []Move{{0, 0, 3}}},
		{whole(5, 2), []int{1, 1, 1, 1, 1}, []int{1, 1}, 1, []Move{{0, 0, 2}}},
		{whole(2, 5), []int{1, 1}, []int{1, 1, 1, 1, 1}, 1, []Move{{0, 0, 2}}},
		{whole(5, 5), []int{1, 1, 1, 1, 1}, []int{1, 1, 2, 1, 1}, 1, []Move{{0, 0, 2}, {2, 3, 2}}},
		{whole(5, 6), []int{1, 1, 1, 1, 1}, []int{1, 1, 2, 1, 1, 1}, 1, []Move{{0, 3, 3}, {3, 0, 2}}},
		{whole(7, 3), []int{1, 2, 1, 2, 1, 2, 1}, []int{2, 1, 2}, 1, []Move{{1, 0, 3}}},
		// no block goes over the end of a change, in the one text or in the other
		{script([4]int{0, 2, 0, 0}, [4]int{3, 2, 1, 4}), []int{1, 2, 9, 3, 4}, []int{9, 1, 2, 3, 4}, 1, []Move{{0, 1, 2}, {3, 3, 2}}},
		{script([4]int{0, 0, 0, 2}, [4]int{1, 4, 3, 2}), []int{9, 1, 2, 3, 4}, []int{1, 2, 9, 3, 4}, 1, []Move{{1, 0, 2}, {3, 3, 2}}},
		{script([4]int{0, 1, 0, 1}, [4]int{2, 1, 2, 1}), []int{1, 9, 2}, []int{1, 9, 2}, 1, []Move{{0, 0, 1}, {2, 2, 1}}},
		// changes that touch are one: a block may go over where they met
		{script([4]int{0, 1, 0, 1}, [4]int{1, 1, 1, 1}), []int{1, 2, 9}, []int{1, 2, 9}, 2, []Move{{0, 0, 2}}},
		{script([4]int{0, 1, 0, 0}, [4]int{1, 1, 0, 0}, [4]int{3, 0, 1, 1}, [4]int{3, 0, 2, 1}), []int{1, 2, 9}, []int{9, 1, 2}, 2, []Move{{0, 1, 2}}},
		{script([4]int{0, 1, 0, 0}, [4]int{1, 1, 0, 0}, [4]int{3, 0, 1, 1}, [4]int{3, 0, 2, 1}), []int{1, 2, 9}, []int{9, 1, 2}, 1, []Move{{0, 1, 2}}},
		// a script that does not fit
		{script([4]int{0, 1, 0, 0}, [4]int{2, 0, 1, 1}), []int{1, 2}, []int{3, 1}, 1, []Move{{0, 1, 1}}},
		// any numbers
		{whole(3, 3), []int{math.MaxInt, math.MinInt, -1}, []int{-1, math.MaxInt, math.MinInt}, 1, []Move{{0, 1, 2}, {2, 0, 1}}},
	} {
		c.check(t)
		if ref := refMoves(c.s, c.a, c.b, c.least); !slices.Equal(ref, c.want) {
			t.Errorf("the table is wrong about %v, %v, %v, %d: %v", c.s, c.a, c.b, c.least, ref)
		}
	}
}

// E10: ErrArg of least, then Valid's error.
func TestMovesErrors(t *testing.T) {
	long := make([]int, api.MaxBytes+1)
	good := script([4]int{0, 1, 0, 1})
	bad := script([4]int{0, 0, 0, 0})
	for _, c := range []struct {
		s     []api.Change
		a, b  []int
		least int
		want  error
	}{
		{good, []int{1}, []int{1}, 1, nil},
		{good, []int{1}, []int{1}, 0, api.ErrArg},
		{good, []int{1}, []int{1}, -1, api.ErrArg},
		{good, []int{1}, []int{1}, math.MinInt, api.ErrArg},
		{nil, nil, nil, 0, api.ErrArg},
		{bad, []int{1}, []int{1}, 0, api.ErrArg},
		{bad, []int{1}, []int{1}, 1, api.ErrEdit},
		{bad, []int{1}, []int{1}, math.MaxInt, api.ErrEdit},
		{nil, []int{1}, nil, 1, api.ErrEdit},
		{nil, nil, []int{1}, 1, api.ErrEdit},
		{good, []int{1, 2}, []int{1}, 1, api.ErrEdit},
		{script([4]int{0, math.MaxInt, 0, math.MaxInt}), []int{1}, []int{1}, 1, api.ErrEdit},
		{script([4]int{1, 1, 1, 1}, [4]int{0, 1, 0, 1}), []int{1, 2}, []int{1, 2}, 1, api.ErrEdit},
		{nil, long, long, 1, api.ErrArg},
		{good, long, []int{1}, 1, api.ErrArg},
		{bad, []int{1}, long, 1, api.ErrArg},
		{nil, long[1:], long[1:], 1, nil},
	} {
		moves, err := Moves(c.s, c.a, c.b, c.least)
		what := fmt.Sprintf("Moves of %v, %d and %d lines, %d", c.s, len(c.a), len(c.b), c.least)
		isErr(t, what, err, c.want)
		if err != nil && len(moves) > 0 {
			t.Error(what, moves, "beside", err)
		}
	}
}

// E10: all small scripts, with changes that touch and without.
func TestMovesOfAllSmall(t *testing.T) {
	for n := range 4 {
		for m := range 4 {
			for _, s := range scripts(n, m) {
				for _, a := range lists(n, 2) {
					for _, b := range lists(m, 2) {
						for least := 1; least < 4; least++ {
							movesOf{s, a, b, least, refMoves(s, a, b, least)}.check(t)
						}
					}
				}
			}
		}
	}
}

// E10: all small lists, all of whose lines go and come.
func TestMovesOfWholeLists(t *testing.T) {
	for _, kinds := range []int{2, 3} {
		most := 8 - kinds
		for n := range most + 1 {
			for m := range most + 1 {
				if n+m == 0 {
					continue
				}
				s := script([4]int{0, n, 0, m})
				ofB := lists(m, kinds)
				for i, a := range lists(n, kinds) {
					for j, b := range ofB {
						// Of the many long ones one in some is enough.
						if n+m > 8 && (i+j)%9 != 0 {
							continue
						}
						least := 1 + (i+j)%2
						movesOf{s, a, b, least, refMoves(s, a, b, least)}.check(t)
					}
				}
			}
		}
	}
}

// steps are numbers that look like thrown ones, and are the same in each run.
type steps uint64

// below is the next one, from 0 to n - 1.
func (s *steps) below(n int) int {
	*s = *s*6364136223846793005 + 1442695040888963407
	return int(uint64(*s)>>33) % n
}

// longer is a script of many changes, with lists of so many kinds of lines, whose runs come again here and there.
func longer(next *steps, n, kinds int) ([]api.Change, []int, []int) {
	var s []api.Change
	var a, b []int
	for len(a) < n {
		for range next.below(4) {
			a = append(a, next.below(kinds))
			b = append(b, a[len(a)-1])
		}
		c := api.Change{A: len(a), B: len(b), N: next.below(9), M: next.below(9)}
		if c.N+c.M == 0 {
			continue
		}
		s = append(s, c)
		for range c.N {
			a = append(a, next.below(kinds))
		}
		from := next.below(len(a) + 1)
		for i := range c.M {
			if from+i < len(a) && next.below(8) > 0 {
				b = append(b, a[from+i])
			} else {
				b = append(b, next.below(kinds))
			}
		}
	}
	return s, a, b
}

// E10: longer lists, with many changes, of few and of many kinds of lines.
func TestMovesOfLongerLists(t *testing.T) {
	next := steps(1)
	for range 4000 {
		s, a, b := longer(&next, 1+next.below(40), 1+next.below(8))
		least := 1 + next.below(3)
		movesOf{s, a, b, least, refMoves(s, a, b, least)}.check(t)
	}
}

// E10: lists of one kind of line, where every block overlaps others: changes of all lengths.
func TestMovesOfLikeLines(t *testing.T) {
	next := steps(7)
	for range 300 {
		var s []api.Change
		a, b := 0, 0
		for range 1 + next.below(6) {
			c := api.Change{A: a + 1, B: b + 1, N: next.below(12), M: 1 + next.below(12)}
			s = append(s, c)
			a, b = c.A+c.N, c.B+c.M
		}
		old, come := make([]int, a), make([]int, b)
		for least := 1; least < 4; least++ {
			movesOf{s, old, come, least, refMoves(s, old, come, least)}.check(t)
		}
	}
}

// E11: what moves are, of lists that are too long for all blocks to be looked at.
func TestMovesHold(t *testing.T) {
	next := steps(3)
	for _, kinds := range []int{1, 2, 3, 10, 1000} {
		s, a, b := longer(&next, 1500, kinds)
		all, err := Moves(s, a, b, 1)
		if err != nil || len(all) == 0 {
			t.Fatal(kinds, len(all), err)
		}
		for least := 1; least < 12; least++ {
			moves, err := Moves(s, a, b, least)
			isErr(t, "Moves", err, nil)
			holds(t, s, a, b, least, moves)
			// those of as many lines, and no others
			want := slices.DeleteFunc(slices.Clone(all), func(v Move) bool { return v.N < least })
			if !slices.Equal(moves, want) {
				t.Errorf("%d kinds, least %d: %v, not %v", kinds, least, moves, want)
			}
		}
	}
}

// holds holds E11: no line twice, the same lines, taken out by one change and brought in by one, by From, and no block left.
func holds(t *testing.T, s []api.Change, a, b []int, least int, moves []Move) {
	t.Helper()
	ofA, ofB := owners(refOf(refPairs(s, len(a), len(b)), len(a), len(b)), len(a), len(b))
	last := -1
	for _, v := range moves {
		if v.N < least || v.From <= last {
			t.Errorf("%v behind a line %d, with least %d", v, last, least)
		}
		last = v.From
		goes, comes := ofA[v.From], ofB[v.To]
		for i := range v.N {
			from, to := v.From+i, v.To+i
			if ofA[from] < 0 || ofB[to] < 0 || ofA[from] != goes || ofB[to] != comes || a[from] != b[to] {
				t.Fatalf("%v is no block", v)
			}
			ofA[from], ofB[to] = -1, -1
		}
	}
	for from := range a {
		for to := range b {
			n := 0
			for n < least && from+n < len(a) && to+n < len(b) && a[from+n] == b[to+n] &&
				ofA[from+n] >= 0 && ofA[from+n] == ofA[from] && ofB[to+n] >= 0 && ofB[to+n] == ofB[to] {
				n++
			}
			if n == least {
				t.Fatalf("%d lines from %d and from %d on are left", n, from, to)
			}
		}
	}
}

// P1: Moves ends, of many lines that are alike, of few kinds and of many, and of blocks of many lengths.
func TestMovesEndsSoon(t *testing.T) {
	const n = 1 << 18
	s := script([4]int{0, n, 0, n})
	next := steps(5)
	a, b := make([]int, n), make([]int, n)
	fill := func(number func(i int) (int, int)) {
		for i := range n {
			a[i], b[i] = number(i)
		}
	}
	sum := func(what string, least int) int {
		lines := 0
		soon(t, what, func() {
			moves, err := Moves(s, a, b, least)
			isErr(t, what, err, nil)
			for _, v := range moves {
				lines += v.N
			}
		})
		return lines
	}
	if got := sum("like lines", 1); got != n {
		t.Error("like lines", got)
	}
	fill(func(int) (int, int) { return next.below(2), next.below(2) })
	if got := sum("two kinds", 1); got < n*9/10 {
		t.Error("two kinds", got)
	}
	fill(func(i int) (int, int) { return i, (i + n/3) % n })
	if got := sum("turned round", 1); got != n {
		t.Error("turned round", got)
	}
	fill(func(i int) (int, int) { return i, n - i })
	if got := sum("turned about", 1); got != n-1 {
		t.Error("turned about", got)
	}
	// blocks of each length, up to the root of 2n
	fill(func(int) (int, int) { return 0, 0 })
	for at, k := 0, 1; at < n; at, k = at+k, k+1 {
		b[at] = -k
	}
	if got := sum("each length", 1); got < n*9/10 {
		t.Error("each length", got)
	}
	// as many moves of one line as there may be
	fill(func(int) (int, int) { return 0, 0 })
	s = nil
	for i := range n / 2 {
		s = append(s, api.Change{A: 2 * i, N: 1, B: 2 * i, M: 1})
	}
	if got := sum("many moves", 1); got != n/2 {
		t.Error("many moves", got)
	}
}

// E10: the order of what stands from each place on, and what neighbours have in common, of all short lists.
func TestSuffixes(t *testing.T) {
	for n := range 8 {
		for _, list := range lists(n, 3) {
			order, rank := suffixes(list)
			want := make([]int, n)
			for i := range want {
				want[i] = i
			}
			slices.SortFunc(want, func(p, q int) int { return slices.Compare(list[p:], list[q:]) })
			if !slices.Equal(order, want) {
				t.Fatalf("%v: %v, not %v", list, order, want)
			}
			same := common(list, order, rank)
			for i, p := range order {
				if rank[p] != i {
					t.Fatalf("%v: place %d has the rank %d, not %d", list, p, rank[p], i)
				}
				alike := 0
				for i > 0 && p+alike < n && order[i-1]+alike < n && list[p+alike] == list[order[i-1]+alike] {
					alike++
				}
				if same[i] != alike {
					t.Fatalf("%v: rank %d has %d in common, not %d", list, i, same[i], alike)
				}
			}
		}
	}
}
