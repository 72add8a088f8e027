package myers

import "selvage/api"

// side is one of two rows, as it is searched: a number that the other row has not can't stay, and is looked at no more.
type side struct {
	numbers []int  // those that the other row has too
	places  []int  // where each of these stands in the row
	changed []bool // by place in the row: the number does not stay
}

// sideOf is a row as a side, held against the numbers of the other row.
func sideOf(row, other []int) side {
	often := make(map[int]int, len(other))
	for _, number := range other {
		often[number]++
	}
	s := side{make([]int, 0, len(row)), make([]int, 0, len(row)), make([]bool, len(row))}
	for place, number := range row {
		if often[number] == 0 {
			s.changed[place] = true
			continue
		}
		s.numbers = append(s.numbers, number)
		s.places = append(s.places, place)
	}
	return s
}

// change marks n of the side's numbers, from the one at first on, as not staying.
func (s *side) change(first, n int) {
	for _, place := range s.places[first : first+n] {
		s.changed[place] = true
	}
}

// script is the normal edit script of two rows, behind head numbers that stay, by which of their numbers do not stay; of the others there are as many in both.
func script(gone, come []bool, head int) []api.Change {
	var changes []api.Change
	x, y := 0, 0
	for x < len(gone) || y < len(come) {
		n, m := marked(gone[x:]), marked(come[y:])
		if n == 0 && m == 0 {
			x, y = x+1, y+1
			continue
		}
		changes = append(changes, api.Change{A: head + x, N: n, B: head + y, M: m})
		x, y = x+n, y+m
	}
	return changes
}

// marked is how many marks a list begins with.
func marked(list []bool) int {
	n := 0
	for n < len(list) && list[n] {
		n++
	}
	return n
}

// sameEnds is how many numbers two rows have in common at their beginnings, and how many behind these at their ends. Some shortest script lets all of them stay.
func sameEnds(a, b []int) (int, int) {
	most := min(len(a), len(b))
	head := 0
	for head < most && a[head] == b[head] {
		head++
	}
	tail := 0
	for tail < most-head && a[len(a)-1-tail] == b[len(b)-1-tail] {
		tail++
	}
	return head, tail
}
