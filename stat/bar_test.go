package stat

import (
	"math"
	"math/big"
	"selvage/api"
	"testing"
)

// isBar fails where Bar does not answer what is wanted.
func isBar(t *testing.T, adds, dels, width, most, plus, minus int) {
	t.Helper()
	if p, m := Bar(adds, dels, width, most); p != plus || m != minus {
		t.Errorf("Bar(%d, %d, %d, %d): %d, %d, not %d, %d", adds, dels, width, most, p, m, plus, minus)
	}
}

// ST2: most is at most the width: the numbers themselves.
func TestBarFits(t *testing.T) {
	isBar(t, 0, 0, 2, 0, 0, 0)
	isBar(t, 0, 0, 10, 5, 0, 0)
	isBar(t, 3, 2, 10, 5, 3, 2)
	isBar(t, 2, 3, 10, 5, 2, 3)
	isBar(t, 3, 2, 10, 10, 3, 2)
	isBar(t, 10, 0, 10, 10, 10, 0)
	isBar(t, 0, 10, 10, 10, 0, 10)
	isBar(t, 1, 9, 10, 10, 1, 9)
	isBar(t, 1, 1, 2, 2, 1, 1)
	isBar(t, 2, 0, 2, 2, 2, 0)
	isBar(t, api.MaxNumber, 0, api.MaxNumber, api.MaxNumber, api.MaxNumber, 0)
	isBar(t, 0, api.MaxNumber, api.MaxNumber, api.MaxNumber, 0, api.MaxNumber)
	isBar(t, 1, api.MaxNumber-1, api.MaxNumber, api.MaxNumber, 1, api.MaxNumber-1)
}

// ST2: most is above the width: the numbers scaled.
func TestBarScales(t *testing.T) {
	// one more than the width: 1 + 11 * 9 / 11 is 10 in all
	isBar(t, 3, 2, 10, 11, 3, 2)
	isBar(t, 11, 0, 10, 11, 10, 0)
	isBar(t, 6, 5, 10, 11, 5, 5)
	isBar(t, 5, 6, 10, 11, 5, 5)
	// adds 0, dels 0, both 0
	isBar(t, 0, 50, 10, 100, 0, 5)
	isBar(t, 50, 0, 10, 100, 5, 0)
	isBar(t, 0, 0, 10, 100, 0, 0)
	isBar(t, 0, 1, 10, 100, 0, 1)
	isBar(t, 1, 0, 10, 100, 1, 0)
	isBar(t, 0, 100, 10, 100, 0, 10)
	isBar(t, 100, 0, 10, 100, 10, 0)
	// both the same: adds is scaled, dels gets what is left
	isBar(t, 50, 50, 10, 100, 5, 5)
	isBar(t, 50, 50, 11, 100, 6, 5)
	isBar(t, 50, 50, 12, 100, 6, 6)
	isBar(t, 30, 30, 10, 100, 3, 3)
	isBar(t, 20, 20, 10, 100, 2, 2)
	isBar(t, 10, 10, 10, 100, 1, 1)
	// each the lesser one
	isBar(t, 40, 60, 10, 100, 4, 6)
	isBar(t, 60, 40, 10, 100, 6, 4)
	isBar(t, 1, 99, 10, 100, 1, 9)
	isBar(t, 99, 1, 10, 100, 9, 1)
	isBar(t, 12, 23, 10, 100, 2, 2)
	isBar(t, 23, 12, 10, 100, 2, 2)
	// where one of the two would get nothing: the length is 2 at least
	isBar(t, 1, 1, 10, 1000, 1, 1)
	isBar(t, 1, 50, 10, 1000, 1, 1)
	isBar(t, 50, 1, 10, 1000, 1, 1)
	isBar(t, 51, 0, 10, 1000, 1, 0)
	isBar(t, 111, 0, 10, 1000, 1, 0)
	isBar(t, 112, 0, 10, 1000, 2, 0)
	isBar(t, 55, 56, 10, 1000, 1, 1)
	isBar(t, 56, 56, 10, 1000, 1, 1)
	// the least width that has a bar
	isBar(t, 1, 2, 2, 3, 1, 1)
	isBar(t, 2, 1, 2, 3, 1, 1)
	isBar(t, 3, 0, 2, 3, 2, 0)
	isBar(t, 2, 0, 2, 3, 1, 0)
	isBar(t, 1, 1, 2, 2*api.MaxNumber, 1, 1)
}

// ST2: numbers that can't be, in each place: both 0, where with the number beside there is a bar.
func TestBarOfBadNumbers(t *testing.T) {
	for _, bad := range []int{math.MinInt, -api.MaxNumber, -1, api.MaxNumber + 1, 2 * api.MaxNumber, math.MaxInt - 1, math.MaxInt} {
		for _, most := range []int{math.MinInt, -1, 0, 5, 100, api.MaxNumber, 2 * api.MaxNumber, math.MaxInt} {
			isBar(t, bad, 2, 10, most, 0, 0)
			isBar(t, 2, bad, 10, most, 0, 0)
			isBar(t, 2, 2, bad, most, 0, 0)
			isBar(t, bad, bad, 10, most, 0, 0)
			isBar(t, bad, bad, bad, most, 0, 0)
			isBar(t, bad, 0, bad, most, 0, 0)
		}
	}
	for _, width := range []int{math.MinInt, -1, 0, 1} {
		isBar(t, 1, 0, width, 1, 0, 0)
		isBar(t, 0, 1, width, 5, 0, 0)
	}
	isBar(t, 1, 0, 2, 1, 1, 0)
	isBar(t, 0, 1, 2, 5, 0, 1)
}

// ST2: most one below adds + dels, just so many, 2 * MaxNumber and one more.
func TestBarOfMost(t *testing.T) {
	for _, most := range []int{math.MinInt, -1, 0, 4, 2*api.MaxNumber + 1, math.MaxInt} {
		isBar(t, 3, 2, 10, most, 0, 0)
		isBar(t, 2, 3, api.MaxNumber, most, 0, 0)
	}
	isBar(t, 3, 2, 10, 5, 3, 2)
	isBar(t, 30, 20, 10, 49, 0, 0)
	isBar(t, 30, 20, 10, 50, 6, 4)
	isBar(t, 0, 0, 10, -1, 0, 0)
	isBar(t, 3, 2, 10, 2*api.MaxNumber, 1, 1)
	isBar(t, api.MaxNumber, api.MaxNumber, 10, 2*api.MaxNumber-1, 0, 0)
	isBar(t, api.MaxNumber, api.MaxNumber, 10, 2*api.MaxNumber, 5, 5)
	isBar(t, api.MaxNumber, api.MaxNumber, api.MaxNumber, 2*api.MaxNumber, 1<<30, 1<<30-1)
	isBar(t, api.MaxNumber, api.MaxNumber-1, api.MaxNumber, 2*api.MaxNumber, 1<<30-1, 1<<30-1)
	isBar(t, api.MaxNumber, 0, 10, 2*api.MaxNumber, 5, 0)
	isBar(t, api.MaxNumber, 0, api.MaxNumber-1, api.MaxNumber, api.MaxNumber-1, 0)
}

// scaledByWords is the chapter's scaled, in numbers of any size.
func scaledByWords(x, width, most int64) int64 {
	if x == 0 {
		return 0
	}
	n := big.NewInt(x)
	n.Mul(n, big.NewInt(width-1))
	n.Div(n, big.NewInt(most))
	return 1 + n.Int64()
}

// barByWords is what ST2 says, word by word, of numbers that can be.
func barByWords(adds, dels, width, most int64) (int64, int64) {
	if most <= width {
		return adds, dels
	}
	length := scaledByWords(adds+dels, width, most)
	neither := adds != 0 && dels != 0
	if neither {
		length = max(length, 2)
	}
	share := func(lesser int64) (int64, int64) {
		one := scaledByWords(lesser, width, most)
		other := length - one
		if neither && one < 1 {
			one, other = 1, length-1
		}
		if neither && other < 1 {
			one, other = length-1, 1
		}
		return one, other
	}
	if adds <= dels {
		return share(adds)
	}
	minus, plus := share(dels)
	return plus, minus
}

// isBarByWords fails where Bar is not what ST2 says, or not what ST5 promises of it.
func isBarByWords(t *testing.T, adds, dels, width, most int) {
	t.Helper()
	p, m := barByWords(int64(adds), int64(dels), int64(width), int64(most))
	isBar(t, adds, dels, width, most, int(p), int(m))
	plus, minus := Bar(adds, dels, width, most)
	if plus+minus > width || plus < 0 || minus < 0 || (plus > 0) != (adds > 0) || (minus > 0) != (dels > 0) {
		t.Errorf("Bar(%d, %d, %d, %d): %d, %d", adds, dels, width, most, plus, minus)
	}
}

// ST2, ST5: Bar of all small numbers, and near the greatest ones.
func TestBarByWords(t *testing.T) {
	for width := 2; width <= 14; width++ {
		for most := range 50 {
			for adds := range most + 1 {
				for dels := range most + 1 - adds {
					isBarByWords(t, adds, dels, width, most)
				}
			}
		}
	}
	next := steps(7)
	near := func(top int) int {
		if next.below(2) == 0 {
			return top - next.below(min(top, 3)+1)
		}
		return next.below(next.below(top+1) + 1)
	}
	for range 200000 {
		adds, dels := near(api.MaxNumber), near(api.MaxNumber)
		width := 2 + near(api.MaxNumber-2)
		most := adds + dels + near(2*api.MaxNumber-adds-dels)
		isBarByWords(t, adds, dels, width, most)
	}
}

// lengths are, of each number of lines in all, the least and the greatest length of a bar.
type lengths struct{ least, most []int }

// growing fails where a greater number of lines has a shorter bar.
func (l lengths) growing(t *testing.T, what string, width, most int) {
	t.Helper()
	longest := 0
	for n := range l.most {
		if l.most[n] < 0 {
			continue
		}
		if l.least[n] < longest {
			t.Fatalf("%s, width %d, most %d: %d lines, a bar of %d behind one of %d", what, width, most, n, l.least[n], longest)
		}
		longest = max(longest, l.most[n])
	}
}

// barLengths are the lengths of all bars of some width and most, of files that both gain and lose lines, or of the others.
func barLengths(width, most int, both bool) lengths {
	l := lengths{make([]int, most+1), make([]int, most+1)}
	for n := range most + 1 {
		l.least[n], l.most[n] = math.MaxInt, -1
		for adds := range n + 1 {
			if both == (adds > 0 && adds < n) {
				plus, minus := Bar(adds, n-adds, width, most)
				l.least[n], l.most[n] = min(l.least[n], plus+minus), max(l.most[n], plus+minus)
			}
		}
	}
	return l
}

// ST5: of two files of one kind, the one with more lines has no shorter bar.
func TestBarsGrow(t *testing.T) {
	for width := 2; width <= 30; width++ {
		for most := 1; most <= 90; most++ {
			barLengths(width, most, true).growing(t, "both", width, most)
			barLengths(width, most, false).growing(t, "one side", width, most)
		}
	}
}
