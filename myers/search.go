package myers

// box is a piece of two rows: the one's numbers from x up to toX, the other's from y up to toY.
type box struct{ x, y, toX, toY int }

// search looks for a shortest way from the beginnings of two rows to their ends, by places x of a and y of b. A step deletes a number of a, or inserts one of b; where the numbers at x and y are the same, the way goes on past both. The diagonal of x and y is y - x + len(a) + 1, so that none is 0: an inserted number leads to the next one, a deleted one to the one before.
type search struct {
	a, b []int
	half int     // a way is over the middle where x + y is no less than this
	at   []reach // by diagonal
}

// reach is the furthest that the ways come on a diagonal: of all ways that end there no other needs to be known.
type reach struct {
	y    int // -1: no way comes there
	over int // the diagonal on which the way came over the middle; 0: it is not over it
}

// roomOf is how many diagonals two rows have, with one more on either side.
func roomOf(a, b []int) int {
	return len(a) + len(b) + 3
}

// middle is a place in the middle of a shortest way, of rows that are not empty and do not begin alike. (So it is neither the way's beginning nor its end.)
//
// Each way has to come from the diagonal of the beginnings to that of the ends, and back for each step that leads away from the latter: the shortest way has the fewest steps away. A round knows the ways with one step away more than the round before; a step inward is free, so that it takes the diagonals from the outermost ones inward.
func middle(a, b []int, room []reach) (int, int) {
	s := search{a, b, (len(a) + len(b)) / 2, room[:roomOf(a, b)]}
	start, goal := len(a)+1, len(b)+1
	low, high := min(start, goal), max(start, goal)
	for k := low - 1; k <= high+1; k++ {
		s.at[k] = reach{y: -1}
	}
	for {
		s.sweep(low, goal, 1)
		s.sweep(high, goal, -1)
		s.sweep(goal, goal+1, 1)
		if s.at[goal].y == len(b) {
			return s.crossing(s.at[goal].over)
		}
		low--
		high++
		s.at[low-1], s.at[high+1] = reach{y: -1}, reach{y: -1}
	}
}

// sweep brings the ways further on the diagonals from k on, up to the one ahead of end.
func (s *search) sweep(k, end, step int) {
	for ; k != end; k += step {
		way := s.at[k+1]
		if inserted := s.at[k-1]; inserted.y+1 > way.y {
			way = inserted
			way.y++
		}
		x := way.y - k + len(s.a) + 1
		for x < len(s.a) && way.y < len(s.b) && s.a[x] == s.b[way.y] {
			x++
			way.y++
		}
		if way.over == 0 && x+way.y >= s.half {
			way.over = k
		}
		s.at[k] = way
	}
}

// crossing is the first place on a diagonal that is over the middle.
func (s *search) crossing(k int) (int, int) {
	ahead := k - len(s.a) - 1
	y := (s.half + ahead + 1) / 2
	return y - ahead, y
}
