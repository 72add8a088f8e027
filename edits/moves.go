package edits

import (
	"cmp"
	"container/heap"
	"selvage/api"
	"slices"
)

// Move is N lines of the old text, from From on, that come in the new one at To.
type Move struct{ From, To, N int }

// Moves are blocks of lines that a script takes out in one place and brings in at another.
func Moves(s []api.Change, a, b []int, least int) ([]Move, error) {
	if least < 1 {
		return nil, api.ErrArg
	}
	normal, err := Normal(s, len(a), len(b))
	if err != nil {
		return nil, err
	}
	longest := longestBlock(normal)
	if longest < least {
		return nil, nil
	}
	x := newSearch(normal, a, b, longest)
	for n := longest; n >= least; n-- {
		x.take(n)
	}
	slices.SortFunc(x.moves, func(v, w Move) int { return cmp.Compare(v.From, w.From) })
	return x.moves, nil
}

// longestBlock is how many lines a block may have: no more than one change takes out, or brings in.
func longestBlock(s []api.Change) int {
	gone, come := 0, 0
	for _, c := range s {
		gone = max(gone, c.N)
		come = max(come, c.M)
	}
	return min(gone, come)
}

// search looks for moves, those of the longest blocks first. The lines that go, and behind them the lines that come, stand in one list, at places: so the order of a place is that of its line, and to look at all blocks of one length is to look at groups of places from which on as many numbers are the same.
type search struct {
	numbers []int
	line    []int // of the place, in its text
	gone    int   // so many places are of lines that go
	rank    []int // of the place, in the order of what stands from it on
	// free is how many lines of a place's change, from the place on, are not used. Of those that have as many as the length that is looked for, or more, no more is known than that.
	free   []int
	groups groups
	// The places that have as many free lines as the length that is looked for, by their ranks: of lines that go, of lines that come.
	olds, news minima
	// What is to be done when a length comes to be looked for: the ranks that are then of one group with the rank ahead, the places that then have enough free lines.
	joins, waits shelves
	moves        []Move
}

// newSearch has looked for nothing yet. No block has more than longest lines.
func newSearch(s []api.Change, a, b []int, longest int) *search {
	x := &search{}
	for _, c := range s {
		x.add(a, c.A, c.N)
	}
	x.gone = len(x.numbers)
	for _, c := range s {
		x.add(b, c.B, c.M)
	}
	size := len(x.numbers)
	order, rank := suffixes(x.numbers)
	x.rank = rank
	x.groups = newGroups(size)
	x.olds, x.news = newMinima(size), newMinima(size)
	x.joins, x.waits = newShelves(longest, size), newShelves(longest, size)
	for i, n := range common(x.numbers, order, rank) {
		x.joins.put(min(n, longest), i)
	}
	for p, n := range x.free {
		x.waits.put(min(n, longest), p)
	}
	return x
}

// add gives places to n lines of one change, from the line from on.
func (x *search) add(list []int, from, n int) {
	for i := range n {
		x.numbers = append(x.numbers, list[from+i])
		x.line = append(x.line, from+i)
		x.free = append(x.free, n-i)
	}
}

// take takes the moves of n lines, where all those of more lines are taken. Groups in which nothing is new have no block: they had none of n + 1 lines.
func (x *search) take(n int) {
	var first placeHeap
	for _, g := range x.renew(n) {
		if p, _, ok := x.block(g); ok {
			first = append(first, p)
		}
	}
	heap.Init(&first)
	for len(first) > 0 {
		p, q, ok := x.block(x.groups.of(x.rank[first[0]]))
		switch {
		case !ok:
			heap.Pop(&first)
		case p != first[0]:
			first[0] = p
			heap.Fix(&first, 0)
		default:
			x.move(p, q, n)
		}
	}
}

// renew makes groups and free places those of n lines, and answers the groups in which something is new.
func (x *search) renew(n int) []int {
	var ranks []int
	x.joins.each(n, func(i int) {
		x.groups.join(i)
		ranks = append(ranks, i)
	})
	x.waits.each(n, func(p int) {
		// It may have been used since it began to wait.
		if x.free[p] >= n {
			x.mark(p, p)
			ranks = append(ranks, x.rank[p])
		}
	})
	for i := range ranks {
		ranks[i] = x.groups.of(ranks[i])
	}
	slices.Sort(ranks)
	return slices.Compact(ranks)
}

// block is the first block of a group: the first place of lines that go, the first of lines that come; and whether there is one.
func (x *search) block(g int) (int, int, bool) {
	end := x.groups.end[g]
	p, q := x.olds.least(g, end), x.news.least(g, end)
	return p, q, p != none && q != none
}

// move makes a move of a block.
func (x *search) move(p, q, n int) {
	x.moves = append(x.moves, Move{From: x.line[p], To: x.line[q], N: n})
	x.use(p, n)
	x.use(q, n)
}

// use uses n free lines from a place on. Places ahead of it from which on there are now too few wait till as few are looked for; those farther ahead have n of them still.
func (x *search) use(p, n int) {
	for i := p; i < p+n; i++ {
		x.mark(i, none)
		x.free[i] = 0
	}
	for i := p - 1; i > p-n && i >= 0 && x.free[i] > p-i; i-- {
		x.mark(i, none)
		x.free[i] = p - i
		x.waits.put(p-i, i)
	}
}

// mark notes a place as one that has enough free lines (by itself), or as one that has not (by none).
func (x *search) mark(p, as int) {
	if p < x.gone {
		x.olds.set(x.rank[p], as)
	} else {
		x.news.set(x.rank[p], as)
	}
}

// placeHeap is places, the first one on top.
type placeHeap []int

func (h placeHeap) Len() int           { return len(h) }
func (h placeHeap) Less(i, j int) bool { return h[i] < h[j] }
func (h placeHeap) Swap(i, j int)      { h[i], h[j] = h[j], h[i] }

// Push is there for package heap alone: all places are in when the heap is made.
func (h *placeHeap) Push(any) {}

// Pop takes the last one off.
func (h *placeHeap) Pop() any {
	last := (*h)[len(*h)-1]
	*h = (*h)[:len(*h)-1]
	return last
}
