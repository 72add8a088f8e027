package edits

import "slices"

// suffixes are the places of a list in the order of what stands from them on, up to the end, and the rank of each place in that order. Ranks by so many numbers are known of each place; they tell the order by twice as many, and so on, until no two are alike.
func suffixes(list []int) (order, rank []int) {
	rank, kinds := dense(list)
	order = make([]int, len(list))
	for i := range order {
		order[i] = i
	}
	order = byRank(order, rank, kinds)
	for width := 1; kinds < len(list); width *= 2 {
		order = byRank(ahead(order, width), rank, kinds)
		rank, kinds = ranked(order, rank, width)
	}
	return order, rank
}

// dense is the rank of each number of a list among those that stand in it, and how many these are.
func dense(list []int) ([]int, int) {
	kinds := slices.Clone(list)
	slices.Sort(kinds)
	kinds = slices.Compact(kinds)
	rank := make([]int, len(list))
	for i, v := range list {
		rank[i], _ = slices.BinarySearch(kinds, v)
	}
	return rank, len(kinds)
}

// byRank is all places in the order of their ranks, and where these are alike as they stood.
func byRank(places, rank []int, kinds int) []int {
	next := make([]int, kinds+1)
	for _, r := range rank {
		next[r+1]++
	}
	for r := range kinds {
		next[r+1] += next[r]
	}
	sorted := make([]int, len(places))
	for _, p := range places {
		sorted[next[rank[p]]] = p
		next[rank[p]]++
	}
	return sorted
}

// ahead is all places in the order of what stands width numbers behind them: where nothing does, first of all.
func ahead(order []int, width int) []int {
	places := make([]int, 0, len(order))
	for p := len(order) - width; p < len(order); p++ {
		places = append(places, p)
	}
	for _, p := range order {
		if p >= width {
			places = append(places, p-width)
		}
	}
	return places
}

// ranked is the rank of each place by 2 * width numbers, and how many ranks there are, where order is that by so many and rank that by width of them.
func ranked(order, rank []int, width int) ([]int, int) {
	behind := func(p int) int {
		if p+width < len(rank) {
			return rank[p+width]
		}
		return -1
	}
	better := make([]int, len(rank))
	last := 0
	for i := 1; i < len(order); i++ {
		p, q := order[i-1], order[i]
		if rank[p] != rank[q] || behind(p) != behind(q) {
			last++
		}
		better[q] = last
	}
	return better, last + 1
}

// common is, for each rank, how many numbers are the same from its place on and from that of the rank ahead on. From a place on, as many but one are the same as from the place ahead of it on, or more: none of them is looked at twice.
func common(list, order, rank []int) []int {
	same := make([]int, len(list))
	n := 0
	for p := range list {
		if rank[p] == 0 {
			continue // nothing stands ahead, and n is 0: were it more, the place behind the last q would
		}
		q := order[rank[p]-1]
		for p+n < len(list) && q+n < len(list) && list[p+n] == list[q+n] {
			n++
		}
		same[rank[p]] = n
		n = max(n-1, 0)
	}
	return same
}
