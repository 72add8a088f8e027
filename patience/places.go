package patience

import (
	"cmp"
	"slices"
)

// box is a piece of two rows: the one's numbers from a up to toA, the other's from b up to toB.
type box struct{ a, b, toA, toB int }

// spots are the places of one number in two rows, rising.
type spots struct{ a, b []int }

// places are the spots of all numbers that stand in the first row.
type places map[int]spots

// placesIn are those within a box of two rows.
func placesIn(in box, a, b []int) places {
	all := places{}
	for place := in.a; place < in.toA; place++ {
		at := all[a[place]]
		at.a = append(at.a, place)
		all[a[place]] = at
	}
	for place := in.b; place < in.toB; place++ {
		at, met := all[b[place]]
		if met {
			at.b = append(at.b, place)
			all[b[place]] = at
		}
	}
	return all
}

// anchors are the pairs of places of those numbers of some rows that stand just once on both sides of a box.
func (p places) anchors(in box, rows ...[]int) [][2]int {
	var pairs [][2]int
	for _, row := range rows {
		for _, number := range row {
			at := p[number]
			x, once := lone(at.a, in.a, in.toA)
			y, too := lone(at.b, in.b, in.toB)
			if once && too {
				pairs = append(pairs, [2]int{x, y})
			}
		}
	}
	slices.SortFunc(pairs, func(one, other [2]int) int { return cmp.Compare(one[0], other[0]) })
	// A number may stand in the rows more than once.
	return slices.Compact(pairs)
}

// lone is the one of some rising places that lies from one place on up to another, if it is the only one.
func lone(rising []int, from, to int) (int, bool) {
	first, _ := slices.BinarySearch(rising, from)
	end, _ := slices.BinarySearch(rising, to)
	if end-first != 1 {
		return 0, false
	}
	return rising[first], true
}
