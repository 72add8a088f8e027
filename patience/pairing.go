package patience

import (
	"selvage/api"
	"selvage/edits"
	"selvage/myers"
)

// none is the place of a number's mate where it has none.
const none = -1

// pairing is two rows, and which of their numbers are known to stay.
type pairing struct {
	a, b   []int
	mates  []int // by place in a: where the number stays in b, or none
	places places
	pieces []piece // those still to be settled, on a stack of its own: pieces may lie within one another thousands of times
}

// piece is what is left between two anchors of an outer box, or at its ends.
type piece struct{ in, outer box }

// settle finds all numbers that stay.
func (p *pairing) settle() {
	whole := p.trim(box{0, 0, len(p.a), len(p.b)})
	if whole.isEmpty() {
		return
	}
	p.places = placesIn(whole, p.a, p.b)
	p.part(whole, p.a[whole.a:whole.toA])
	for len(p.pieces) > 0 {
		last := len(p.pieces) - 1
		next := p.pieces[last]
		p.pieces = p.pieces[:last]
		p.part(next.in, p.likely(next)...)
	}
}

// trim lets stay what both sides of a box begin with and end with, and answers what is left of it.
func (p *pairing) trim(in box) box {
	for in.a < in.toA && in.b < in.toB && p.a[in.a] == p.b[in.b] {
		p.mates[in.a] = in.b
		in.a++
		in.b++
	}
	for in.a < in.toA && in.b < in.toB && p.a[in.toA-1] == p.b[in.toB-1] {
		in.toA--
		in.toB--
		p.mates[in.toA] = in.toB
	}
	return in
}

// isEmpty tells whether nothing can stay, there being nothing on one side.
func (in box) isEmpty() bool {
	return in.a == in.toA || in.b == in.toB
}

// part settles a trimmed box, all of whose anchors have their numbers in some rows: the longest rising row of anchors stays, and the pieces between them are left to be settled; without anchors it is as many as can stay.
func (p *pairing) part(in box, rows ...[]int) {
	anchors := p.places.anchors(in, rows...)
	if len(anchors) == 0 {
		p.shortest(in)
		return
	}
	rest := in
	for _, i := range Rising(seconds(anchors)) {
		x, y := anchors[i][0], anchors[i][1]
		p.mates[x] = y
		p.leave(box{rest.a, rest.b, x, y}, in)
		rest.a, rest.b = x+1, y+1
	}
	p.leave(rest, in)
}

// leave trims a box, and leaves the rest of it to be settled.
func (p *pairing) leave(in, outer box) {
	in = p.trim(in)
	if !in.isEmpty() {
		p.pieces = append(p.pieces, piece{in, outer})
	}
}

// likely are rows that have the numbers of all anchors of a piece. Its own numbers are such; so are those of the outer box around it: no number is an anchor of both, for it would have made the row of anchors that stays in the outer box longer, and so an anchor of the piece stands in the outer box once more. The shorter of the two are taken, or pieces that lie deep within one another would be gone through again and again.
func (p *pairing) likely(next piece) [][]int {
	in, outer := next.in, next.outer
	own := p.a[in.a:in.toA]
	around := [][]int{p.a[outer.a:in.a], p.a[in.toA:outer.toA], p.b[outer.b:in.b], p.b[in.toB:outer.toB]}
	n := 0
	for _, row := range around {
		n += len(row)
	}
	if len(own) <= n {
		return [][]int{own}
	}
	return around
}

// shortest lets stay what a shortest script of a box does.
func (p *pairing) shortest(in box) {
	a, b := p.a[in.a:in.toA], p.b[in.b:in.toB]
	// Diff's script is one between the two, so there is no error.
	pairs, _ := edits.Pairs(myers.Diff(a, b), len(a), len(b))
	for _, pair := range pairs {
		p.mates[in.a+pair[0]] = in.b + pair[1]
	}
}

// script is the edit script that lets the numbers stay that have mates.
func (p *pairing) script() []api.Change {
	pairs := make([][2]int, 0, len(p.mates))
	for x, y := range p.mates {
		if y != none {
			pairs = append(pairs, [2]int{x, y})
		}
	}
	// Pieces lie apart from one another, in the same order on both sides, so the pairs rise, and there is no error.
	changes, _ := edits.Of(pairs, len(p.a), len(p.b))
	return changes
}

// seconds are the second numbers of pairs.
func seconds(pairs [][2]int) []int {
	list := make([]int, len(pairs))
	for i, pair := range pairs {
		list[i] = pair[1]
	}
	return list
}
