package patience

import (
	"selvage/api"
	"slices"
)

// rows are all rows of at most so many numbers below kinds.
func rows(most, kinds int) [][]int {
	all := [][]int{nil}
	for from := 0; most > 0; most-- {
		end := len(all)
		for _, row := range all[from:end] {
			for v := range kinds {
				all = append(all, append(slices.Clone(row), v))
			}
		}
		from = end
	}
	return all
}

// orders are all orders of the numbers below n, and of fewer of them.
func orders(n int) [][]int {
	var all [][]int
	var grow func(row []int)
	grow = func(row []int) {
		all = append(all, slices.Clone(row))
		for v := range n {
			if !slices.Contains(row, v) {
				grow(append(row, v))
			}
		}
	}
	grow(nil)
	return all
}

// upward is a row of n numbers, one behind the other.
func upward(from, n int) []int {
	row := make([]int, n)
	for i := range row {
		row[i] = from + i
	}
	return row
}

// turned is a row the other way round.
func turned(row []int) []int {
	row = slices.Clone(row)
	slices.Reverse(row)
	return row
}

// with is several rows as one.
func with(rows ...[]int) []int {
	return slices.Concat(rows...)
}

// named is a row with each number exchanged for that which stands at it in a list.
func named(row, names []int) []int {
	made := make([]int, len(row))
	for i, v := range row {
		made[i] = names[v]
	}
	return made
}

// steps are numbers that look like thrown ones, and are the same in each run.
type steps uint64

// below is the next one, from 0 to n - 1.
func (s *steps) below(n int) int {
	*s = *s*6364136223846793005 + 1442695040888963407
	return int(uint64(*s)>>33) % n
}

// thrown is a row of n numbers below kinds.
func (s *steps) thrown(n, kinds int) []int {
	row := make([]int, n)
	for i := range row {
		row[i] = s.below(kinds)
	}
	return row
}

// mixed is a row's numbers in another order.
func (s *steps) mixed(row []int) []int {
	row = slices.Clone(row)
	for i := range row {
		j := i + s.below(len(row)-i)
		row[i], row[j] = row[j], row[i]
	}
	return row
}

// touched is a row with some of its numbers left out, exchanged, or followed by another one: one of every so many.
func (s *steps) touched(row []int, every, kinds int) []int {
	var made []int
	for _, v := range row {
		switch s.below(3 * every) {
		case 0:
		case 1:
			made = append(made, s.below(kinds))
		case 2:
			made = append(made, v, s.below(kinds))
		default:
			made = append(made, v)
		}
	}
	return made
}

// nested is two rows each of whose pieces but the last has one anchor, near its beginning: it takes a number that stands twice from the next piece, the anchor of which that is for this. What stays is all but the numbers below 0, and want is the script.
func nested(depth int) (a, b []int, want []api.Change) {
	for k := range depth {
		a = append(a, -1, k+1, k)
		b = append(b, -2, k+1, k)
	}
	a = append(a, -1, depth, -1)
	b = append(b, -2, depth, -2)
	for x := 0; x < len(a); x++ {
		if a[x] < 0 {
			want = append(want, api.Change{A: x, N: 1, B: x, M: 1})
		}
	}
	return a, b, want
}

// nestedByTurns is the like, the anchors being near the beginning and near the end by turns.
func nestedByTurns(depth int) (a, b []int) {
	a, b = []int{-1, depth, -1}, []int{-2, depth, -2}
	for k := depth - 1; k >= 0; k-- {
		if k%2 == 0 {
			a, b = with([]int{-1, k + 1, k}, a), with([]int{-2, k + 1, k}, b)
		} else {
			a, b = with(a, []int{k, k + 1, -1}), with(b, []int{k, k + 1, -2})
		}
	}
	return a, b
}

// mostCommon is the length of a longest common subsequence, by the table of all beginnings, two lines of which are kept.
func mostCommon(a, b []int) int {
	above, line := make([]int, len(b)+1), make([]int, len(b)+1)
	for _, v := range a {
		for j, w := range b {
			if v == w {
				line[j+1] = above[j] + 1
			} else {
				line[j+1] = max(line[j], above[j+1])
			}
		}
		above, line = line, above
	}
	return above[len(b)]
}

// often is how often a number stands in a row.
func often(row []int, number int) int {
	n := 0
	for _, v := range row {
		if v == number {
			n++
		}
	}
	return n
}

// standsTwice tells whether a number of a row stands there more than once.
func standsTwice(row []int) bool {
	row = slices.Clone(row)
	slices.Sort(row)
	return len(slices.Compact(row)) < len(row)
}

// plainAnchors are the anchors of two rows, by a plain count of each number.
func plainAnchors(a, b []int) [][2]int {
	var pairs [][2]int
	for x, v := range a {
		if often(a, v) == 1 && often(b, v) == 1 {
			pairs = append(pairs, [2]int{x, slices.Index(b, v)})
		}
	}
	return pairs
}

// countedAnchors are the same of longer rows, by a count of all numbers.
func countedAnchors(a, b []int) [][2]int {
	inA, inB, at := map[int]int{}, map[int]int{}, map[int]int{}
	for _, v := range a {
		inA[v]++
	}
	for y, v := range b {
		inB[v]++
		at[v] = y
	}
	var pairs [][2]int
	for x, v := range a {
		if inA[v] == 1 && inB[v] == 1 {
			pairs = append(pairs, [2]int{x, at[v]})
		}
	}
	return pairs
}

// isAhead tells whether a row of places is the one that PN2 names ahead of another one: it is longer, or as long and has the lesser place where they first are unlike, from the last place on.
func isAhead(row, other []int) bool {
	if len(row) != len(other) {
		return len(row) > len(other)
	}
	for k := len(row) - 1; k >= 0; k-- {
		if row[k] != other[k] {
			return row[k] < other[k]
		}
	}
	return false
}

// foundRising is Rising by a search among all rows of places.
func foundRising(l []int) []int {
	var best []int
	for set := range 1 << len(l) {
		var row []int
		rises := true
		for i := range l {
			if set>>i&1 == 1 {
				rises = rises && (len(row) == 0 || l[row[len(row)-1]] < l[i])
				row = append(row, i)
			}
		}
		if rises && isAhead(row, best) {
			best = row
		}
	}
	return best
}

// plainRising is Rising of longer lists: how long a row may end at each place, and then, from the last place on, the first place that will do.
func plainRising(l []int) []int {
	long := make([]int, len(l))
	most := 0
	for i := range l {
		for j := range i {
			if l[j] < l[i] {
				long[i] = max(long[i], long[j])
			}
		}
		long[i]++
		most = max(most, long[i])
	}
	row := make([]int, most)
	for k := most; k > 0; k-- {
		row[k-1] = slices.IndexFunc(upward(0, len(l)), func(i int) bool {
			return long[i] == k && (k == most || i < row[k] && l[i] < l[row[k]])
		})
	}
	return row
}
