package apply

// pattern is a row of numbers, one at least, that is sought in a longer one. Where a beginning of it was met and the next number is another one, what goes on is the longest shorter beginning with which that one ends: so no number of the longer row is read again.
type pattern struct {
	numbers []int
	shorter []int // of the beginning up to each number, with it: how long that shorter one is
}

// patternOf is a row of numbers as a pattern.
func patternOf(numbers []int) pattern {
	p := pattern{numbers, make([]int, len(numbers))}
	for i := 1; i < len(numbers); i++ {
		p.shorter[i] = p.next(p.shorter[i-1], numbers[i])
	}
	return p
}

// next is how many numbers of the pattern have been met behind a number, where so many had been ahead of it.
func (p pattern) next(met, number int) int {
	if met == len(p.numbers) {
		met = p.shorter[met-1]
	}
	for met > 0 && p.numbers[met] != number {
		met = p.shorter[met-1]
	}
	if p.numbers[met] == number {
		met++
	}
	return met
}

// nearest is the place nearest to middle, of those from low to high, at which the pattern stands in a row; of two as near the lesser one.
func (p pattern) nearest(row []int, low, middle, high int) (int, bool) {
	nearest, found := 0, false
	met := 0
	for i, number := range row[low : high+len(p.numbers)] {
		met = p.next(met, number)
		if met < len(p.numbers) {
			continue
		}
		at := low + i + 1 - met
		if !found || at-middle < middle-nearest {
			nearest, found = at, true
		}
	}
	return nearest, found
}
