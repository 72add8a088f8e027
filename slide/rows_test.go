package slide

import (
	"errors"
	"selvage/api"
	"slices"
	"testing"
)

// script is changes by their four numbers each: A, N, B, M.
func script(numbers ...[4]int) []api.Change {
	var s []api.Change
	for _, c := range numbers {
		s = append(s, api.Change{A: c[0], N: c[1], B: c[2], M: c[3]})
	}
	return s
}

// rows are all rows of at most so many numbers below kinds.
func rows(most, kinds int) [][]int {
	all := [][]int{nil}
	for from := 0; most > 0; most-- {
		end := len(all)
		for _, row := range all[from:end] {
			for v := range kinds {
				all = append(all, append(slices.Clone(row), v))
			}
		}
		from = end
	}
	return all
}

// eachScript hands on all edit scripts from n lines to m, those with changes that touch too, or those that are normal alone: any number of lines that stay, then a change, and so on.
func eachScript(n, m int, normal bool, take func(s []api.Change)) {
	var grow func(s []api.Change, a, b int)
	grow = func(s []api.Change, a, b int) {
		if n-a == m-b {
			take(slices.Clone(s))
		}
		stay := 0
		if normal && len(s) > 0 {
			stay = 1
		}
		for ; a+stay <= n && b+stay <= m; stay++ {
			for old := range n - a - stay + 1 {
				for come := range m - b - stay + 1 {
					if old+come > 0 {
						c := api.Change{A: a + stay, N: old, B: b + stay, M: come}
						grow(append(slices.Clone(s), c), c.A+c.N, c.B+c.M)
					}
				}
			}
		}
	}
	grow(nil, 0, 0)
}

// scriptsBetween are all edit scripts between rows of at most so many lines, or all that are normal, by how many lines these are.
func scriptsBetween(most int, normal bool) map[[2]int][][]api.Change {
	all := map[[2]int][][]api.Change{}
	for n := range most + 1 {
		for m := range most + 1 {
			eachScript(n, m, normal, func(s []api.Change) { all[[2]int{n, m}] = append(all[[2]int{n, m}], s) })
		}
	}
	return all
}

// plainFits tells whether what a valid script leaves be is the same on both sides, number by number.
func plainFits(s []api.Change, a, b []int) bool {
	x, y := 0, 0
	for _, c := range append(slices.Clone(s), api.Change{A: len(a), B: len(b)}) {
		for ; x < c.A; x, y = x+1, y+1 {
			if a[x] != b[y] {
				return false
			}
		}
		x, y = c.A+c.N, c.B+c.M
	}
	return true
}

// plainNormal is a valid script with changes that touch as one.
func plainNormal(s []api.Change) []api.Change {
	var all []api.Change
	for _, c := range s {
		if n := len(all); n > 0 && all[n-1].A+all[n-1].N == c.A && all[n-1].B+all[n-1].M == c.B {
			all[n-1].N += c.N
			all[n-1].M += c.M
			continue
		}
		all = append(all, c)
	}
	return all
}

// canSlide tells by the chapter's words whether a change of a script can slide on by one.
func canSlide(s []api.Change, i int, a, b []int) bool {
	c := s[i]
	endA, endB := len(a), len(b)
	if i+1 < len(s) {
		endA, endB = s[i+1].A, s[i+1].B
	}
	if c.M == 0 && c.N > 0 {
		return c.A+c.N < endA && a[c.A] == a[c.A+c.N]
	}
	return c.N == 0 && c.B+c.M < endB && b[c.B] == b[c.B+c.M]
}

// plainSlide is Slide as SL1 says it, step by step.
func plainSlide(s []api.Change, a, b []int) []api.Change {
	s = plainNormal(s)
	for i := len(s) - 1; i >= 0; i-- {
		for canSlide(s, i, a, b) {
			s[i].A++
			s[i].B++
		}
		if i+1 < len(s) && s[i].A+s[i].N == s[i+1].A {
			s[i].N += s[i+1].N
			s[i].M += s[i+1].M
			s = slices.Delete(s, i+1, i+2)
		}
	}
	return s
}

// cost is how many numbers a script deletes, and how many it inserts.
func cost(s []api.Change) [2]int {
	var sum [2]int
	for _, c := range s {
		sum[0] += c.N
		sum[1] += c.M
	}
	return sum
}

// made is the row that a script makes of a, the numbers that come being those of b, change by change from the last one on.
func made(s []api.Change, a, b []int) []int {
	row := slices.Clone(a)
	for _, c := range slices.Backward(s) {
		row = slices.Replace(row, c.A, c.A+c.N, b[c.B:c.B+c.M]...)
	}
	return row
}

// isNormal tells whether at least one number stands between any two changes.
func isNormal(s []api.Change) bool {
	for i := 1; i < len(s); i++ {
		if s[i-1].A+s[i-1].N >= s[i].A || s[i-1].B+s[i-1].M >= s[i].B {
			return false
		}
	}
	return true
}

// failed fails where an error, or what is answered with it, is not as it is to be.
func failed(t *testing.T, what string, got []api.Change, err, want error) {
	t.Helper()
	if !errors.Is(err, want) || len(got) != 0 {
		t.Errorf("%s: %v, %v, not %v", what, got, err, want)
	}
}

// slides fails where Slide of a script is not another one.
func slides(t *testing.T, s []api.Change, a, b []int, want []api.Change) {
	t.Helper()
	got, err := Slide(s, a, b)
	if err != nil || !slices.Equal(got, want) {
		t.Errorf("%v of %v, %v: %v, %v, not %v", s, a, b, got, err, want)
	}
}

// keeps fails where Slide of a script breaks SL3, and answers what it slides to.
func keeps(t *testing.T, s []api.Change, a, b []int) []api.Change {
	t.Helper()
	got, err := Slide(s, a, b)
	if err != nil || cost(got) != cost(s) || !isNormal(got) || !plainFits(got, a, b) || !slices.Equal(made(got, a, b), b) {
		t.Fatalf("%v of %v, %v: %v, %v", s, a, b, got, err)
	}
	again, err := Slide(got, a, b)
	if err != nil || cost(again) != cost(s) || !slices.Equal(made(again, a, b), b) {
		t.Fatalf("%v of %v, %v: %v, and again %v, %v", s, a, b, got, again, err)
	}
	return got
}

// steps are numbers that look like thrown ones, and are the same in each run.
type steps uint64

// below is the next one, from 0 to n - 1.
func (s *steps) below(n int) int {
	*s = *s*6364136223846793005 + 1442695040888963407
	return int(uint64(*s)>>33) % n
}

// repeated is n numbers of few kinds, short blocks of which are repeated again and again, with a slip now and then.
func (s *steps) repeated(n, kinds int) []int {
	var row []int
	for len(row) < n {
		block := make([]int, 1+s.below(4))
		for i := range block {
			block[i] = s.below(kinds)
		}
		for range 1 + s.below(12) {
			row = append(row, block...)
		}
		if s.below(3) == 0 {
			row = append(row, s.below(kinds))
		}
	}
	return row[:n]
}

// changed is a script from a row to another one, and that one: about one change for each so many numbers, of at most so many numbers, which come as the ones around them are.
func (s *steps) changed(a []int, every, most int) ([]api.Change, []int) {
	var changes []api.Change
	var b []int
	for x := 0; x < len(a); {
		if s.below(every) > 0 {
			b = append(b, a[x])
			x++
			continue
		}
		c := api.Change{A: x, B: len(b)}
		way := s.below(5)
		if way != 0 && way != 1 {
			c.N = min(1+s.below(most), len(a)-x)
		}
		if way != 2 && way != 3 {
			c.M = min(1+s.below(most), len(a)-x)
		}
		b = append(b, a[x:x+c.M]...)
		x += c.N
		changes = append(changes, c)
	}
	return changes, b
}
