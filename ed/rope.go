package ed

// rope is lines in order, as a tree of pieces of them: so a command takes the time that its own lines ask for, wherever it stands, and not that of all lines. Nil is no lines. A rope is never changed: those that are cut from it, or made with it, share its parts.
type rope struct {
	piece       []string // of a leaf: its lines, one at least
	left, right *rope    // of a node: the heights of both differ by one at most
	count       int      // how many lines there are
	height      int      // of a leaf 0
}

// leaf is lines in one piece.
func leaf(l []string) *rope {
	if len(l) == 0 {
		return nil
	}
	return &rope{piece: l, count: len(l)}
}

// node is two ropes, one behind the other, whose heights differ by one at most.
func node(left, right *rope) *rope {
	return &rope{left: left, right: right, count: left.count + right.count, height: max(left.height, right.height) + 1}
}

// join is one rope behind another one.
func join(left, right *rope) *rope {
	switch {
	case left == nil:
		return right
	case right == nil:
		return left
	case left.height > right.height+1:
		return balance(left.left, join(left.right, right))
	case right.height > left.height+1:
		return balance(join(left, right.left), right.right)
	}
	return node(left, right)
}

// balance is one rope behind another one, where their heights differ by two at most.
func balance(left, right *rope) *rope {
	switch {
	case left.height > right.height+1:
		if left.left.height >= left.right.height {
			return node(left.left, node(left.right, right))
		}
		return node(node(left.left, left.right.left), node(left.right.right, right))
	case right.height > left.height+1:
		if right.right.height >= right.left.height {
			return node(node(left, right.left), right.right)
		}
		return node(node(left, right.left.left), node(right.left.right, right.right))
	}
	return node(left, right)
}

// len is how many lines there are.
func (r *rope) len() int {
	if r == nil {
		return 0
	}
	return r.count
}

// split are the first n lines, of as many at least, and those behind them.
func (r *rope) split(n int) (*rope, *rope) {
	switch {
	case n == 0:
		return nil, r
	case n == r.count:
		return r, nil
	case r.height == 0:
		return leaf(r.piece[:n]), leaf(r.piece[n:])
	case n < r.left.count:
		left, right := r.left.split(n)
		return left, join(right, r.right)
	}
	left, right := r.right.split(n - r.left.count)
	return join(r.left, left), right
}

// at is the line behind so many others.
func (r *rope) at(ahead int) string {
	for r.height > 0 {
		if ahead < r.left.count {
			r = r.left
		} else {
			ahead -= r.left.count
			r = r.right
		}
	}
	return r.piece[ahead]
}

// each hands over all pieces in order.
func (r *rope) each(take func(piece []string)) {
	switch {
	case r == nil:
	case r.height == 0:
		take(r.piece)
	default:
		r.left.each(take)
		r.right.each(take)
	}
}

// lines are all lines, as a list of its own.
func (r *rope) lines() []string {
	l := make([]string, 0, r.len())
	r.each(func(piece []string) { l = append(l, piece...) })
	return l
}
