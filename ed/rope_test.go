package ed

import (
	"fmt"
	"slices"
	"testing"
)

// isRope fails where a rope does not hold these lines, or is not as a rope must be.
func isRope(t *testing.T, r *rope, want []string) {
	t.Helper()
	if r.len() != len(want) || !slices.Equal(r.lines(), want) {
		t.Fatalf("%d %q, not %q", r.len(), r.lines(), want)
	}
	for i, line := range want {
		if r.at(i) != line {
			t.Fatalf("%q at %d, not %q", r.at(i), i, line)
		}
	}
	isBalanced(t, r)
}

// isBalanced fails where a rope has a part that is empty, or one that is much higher than the one beside it.
func isBalanced(t *testing.T, r *rope) {
	t.Helper()
	if r == nil {
		return
	}
	if r.left == nil || r.right == nil {
		if r.left != nil || r.right != nil || r.height != 0 || len(r.piece) == 0 || r.count != len(r.piece) {
			t.Fatalf("a leaf of %d with %q, %d high", r.count, r.piece, r.height)
		}
		return
	}
	low, high := min(r.left.height, r.right.height), max(r.left.height, r.right.height)
	if high > low+1 || r.height != high+1 || r.piece != nil || r.count != r.left.count+r.right.count {
		t.Fatalf("a node of %d with %q, %d high, over %d and %d", r.count, r.piece, r.height, r.left.height, r.right.height)
	}
	isBalanced(t, r.left)
	isBalanced(t, r.right)
}

// Ropes that are split and joined in many ways hold what lists would, and stay low; those they were made of stay as they were.
func TestRope(t *testing.T) {
	next := steps(17)
	for range 300 {
		var r *rope
		var l []string
		for i := range 100 {
			at := next.below(len(l) + 1)
			gone := next.below(min(len(l)-at, 5) + 1)
			var come []string
			for k := range next.below(4) {
				come = append(come, fmt.Sprint(i, ".", k))
			}
			was, wasLines := r, slices.Clone(l)
			left, rest := r.split(at)
			away, right := rest.split(gone)
			isRope(t, left, l[:at])
			isRope(t, away, l[at:at+gone])
			isRope(t, right, l[at+gone:])
			r = join(join(left, leaf(come)), right)
			l = slices.Replace(slices.Clone(l), at, at+gone, come...)
			isRope(t, r, l)
			isRope(t, was, wasLines)
		}
	}
}

// Ropes of any two heights are joined to one that stays low.
func TestRopesOfAllHeights(t *testing.T) {
	grown := func(n int, ahead bool) (*rope, []string) {
		var r *rope
		var l []string
		for i := range n {
			line := fmt.Sprint(i)
			if ahead {
				r, l = join(leaf([]string{line}), r), slices.Insert(l, 0, line)
			} else {
				r, l = join(r, leaf([]string{line})), append(l, line)
			}
		}
		return r, l
	}
	sizes := []int{0, 1, 2, 3, 4, 5, 7, 8, 12, 20, 33, 64, 130, 500}
	for _, n := range sizes {
		for _, m := range sizes {
			for k := range 4 {
				r, x := grown(n, k&1 > 0)
				s, y := grown(m, k&2 > 0)
				isRope(t, join(r, s), slices.Concat(x, y))
			}
		}
	}
	r, _ := grown(1<<14, false)
	if r.height > 20 {
		t.Error(r.height)
	}
}
