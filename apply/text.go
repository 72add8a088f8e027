package apply

import "slices"

// text is lines among which others are sought. Where it is searched, lines are known by numbers, the same ones by the same number.
type text struct {
	lines   []string
	numbers map[string]int
	coded   []int // the lines by their numbers
	last    []int // of each number, where it stands last
}

// nearest is the place nearest to target, of those from a place on that is not below 0, at which lines stand in the text; of two as near the lesser one.
func (t *text) nearest(l []string, from, target int) (int, bool) {
	last := len(t.lines) - len(l)
	if from > last {
		return 0, false
	}
	// Of all places that there are this one is nearest to the target: what is nearest to it is so to the target, too.
	middle := min(max(target, from), last)
	if slices.Equal(t.lines[middle:middle+len(l)], l) {
		return middle, true
	}
	numbers, found := t.numbersOf(l, from)
	if !found {
		return 0, false
	}
	// The search goes farther and farther from the middle, so that it costs no more than a few times the way to what it finds.
	p := patternOf(numbers)
	for width := len(l); ; width *= 4 {
		low, high := max(middle-width, from), min(middle+width, last)
		if at, found := p.nearest(t.coded, low, middle, high); found {
			return at, true
		}
		if low == from && high == last {
			return 0, false
		}
	}
}

// numbersOf are the numbers of lines; none, if one of these stands nowhere in the text, or nowhere so far on as it would have to with the first one at from or behind it.
func (t *text) numbersOf(l []string, from int) ([]int, bool) {
	t.numberLines()
	numbers := make([]int, len(l))
	for i, line := range l {
		number, known := t.numbers[line]
		if !known || t.last[number] < from+i {
			return nil, false
		}
		numbers[i] = number
	}
	return numbers, true
}

// numberLines gives the text's lines their numbers, the first time that one is asked for: hunks that stand where they say need none.
func (t *text) numberLines() {
	if t.numbers != nil {
		return
	}
	t.numbers = map[string]int{}
	t.coded = make([]int, len(t.lines))
	for i, line := range t.lines {
		number, known := t.numbers[line]
		if !known {
			number = len(t.last)
			t.numbers[line] = number
			t.last = append(t.last, i)
		}
		t.coded[i] = number
		t.last[number] = i
	}
}
