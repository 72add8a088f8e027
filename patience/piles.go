package patience

import "sort"

// pile is the places at which longest rising rows of one length end. From each place to the next the numbers do not grow: a greater one would end a longer row.
type pile struct{ first, last int }

// pilesOf lays the places of a list onto piles, that of the shortest rows first; below is, by place, the next place of the same pile.
func pilesOf(l []int) (piles []pile, below []int) {
	below = make([]int, len(l))
	for place, number := range l {
		k := sort.Search(len(piles), func(k int) bool { return l[piles[k].last] >= number })
		if k == len(piles) {
			piles = append(piles, pile{place, place})
			continue
		}
		below[piles[k].last] = place
		piles[k].last = place
	}
	return piles, below
}
