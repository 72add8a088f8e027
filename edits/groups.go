package edits

import "math"

// none stands where there is no place.
const none = math.MaxInt

// groups are ranges of numbers, each of them alone at first. A group is known by its first number.
type groups struct {
	ahead []int // of a group's first number itself, of another one a number ahead of it in its group
	end   []int // of a group's first number: what is behind the last one
}

// newGroups are n numbers, each one alone.
func newGroups(n int) groups {
	g := groups{make([]int, n), make([]int, n)}
	for i := range n {
		g.ahead[i] = i
		g.end[i] = i + 1
	}
	return g
}

// of is the group of a number. The way to it becomes shorter, so that all ways stay short.
func (g groups) of(i int) int {
	for g.ahead[i] != i {
		g.ahead[i] = g.ahead[g.ahead[i]]
		i = g.ahead[i]
	}
	return i
}

// join makes one group of that which begins with i and that which ends ahead of it.
func (g groups) join(i int) {
	first := g.of(i - 1)
	g.ahead[i] = first
	g.end[first] = g.end[i]
}

// minima is a row of numbers of which the least between two places is soon found: a tree, the row being its second half, with the lesser one of 2i and 2i + 1 at i.
type minima []int

// newMinima is a row of n numbers, all of them none.
func newMinima(n int) minima {
	t := make(minima, 2*n)
	for i := range t {
		t[i] = none
	}
	return t
}

// set puts a number into the row.
func (t minima) set(i, v int) {
	i += len(t) / 2
	t[i] = v
	for i > 1 {
		i /= 2
		t[i] = min(t[2*i], t[2*i+1])
	}
}

// least is the least number from a place on, up to another.
func (t minima) least(from, to int) int {
	best := none
	i, j := from+len(t)/2, to+len(t)/2
	for i < j {
		if i%2 == 1 {
			best = min(best, t[i])
			i++
		}
		if j%2 == 1 {
			j--
			best = min(best, t[j])
		}
		i, j = i/2, j/2
	}
	return best
}

// shelves keep numbers, each of them on one shelf at a time.
type shelves struct {
	top   []int // by shelf: the number that was put there last, or none
	below []int // by number: the one that was put there ahead of it, or none
}

// newShelves are shelves 0 to most for n numbers.
func newShelves(most, n int) shelves {
	s := shelves{make([]int, most+1), make([]int, n)}
	for i := range s.top {
		s.top[i] = none
	}
	return s
}

// put puts a number onto a shelf.
func (s shelves) put(shelf, i int) {
	s.below[i] = s.top[shelf]
	s.top[shelf] = i
}

// each hands on all numbers of a shelf.
func (s shelves) each(shelf int, take func(i int)) {
	for i := s.top[shelf]; i != none; i = s.below[i] {
		take(i)
	}
}
