package edits

import (
	"errors"
	"fmt"
	"math"
	"math/big"
	"selvage/api"
	"slices"
	"testing"
	"time"
)

// script is changes by their four numbers each: A, N, B, M.
func script(numbers ...[4]int) []api.Change {
	var s []api.Change
	for _, c := range numbers {
		s = append(s, api.Change{A: c[0], N: c[1], B: c[2], M: c[3]})
	}
	return s
}

// scripts are all edit scripts from n lines to m, those with changes that touch too: any number of lines that stay, then a change, and so on.
func scripts(n, m int) [][]api.Change {
	var all [][]api.Change
	var grow func(s []api.Change, a, b int)
	grow = func(s []api.Change, a, b int) {
		if n-a == m-b {
			all = append(all, slices.Clone(s))
		}
		for stay := 0; a+stay <= n && b+stay <= m; stay++ {
			for old := 0; a+stay+old <= n; old++ {
				for come := 0; b+stay+come <= m; come++ {
					if old+come > 0 {
						c := api.Change{A: a + stay, N: old, B: b + stay, M: come}
						grow(append(slices.Clone(s), c), c.A+c.N, c.B+c.M)
					}
				}
			}
		}
	}
	grow(nil, 0, 0)
	return all
}

// lists are all lists of n numbers below kinds.
func lists(n, kinds int) [][]int {
	all := [][]int{nil}
	for range n {
		var longer [][]int
		for _, l := range all {
			for v := range kinds {
				longer = append(longer, append(slices.Clone(l), v))
			}
		}
		all = longer
	}
	return all
}

// refValid tells by the chapter's words whether changes are an edit script, with numbers that do not wrap round.
func refValid(s []api.Change, n, m int) error {
	if n < 0 || n > 1<<22 || m < 0 || m > 1<<22 {
		return api.ErrArg
	}
	sum := func(v ...int) *big.Int {
		all := new(big.Int)
		for _, one := range v {
			all.Add(all, big.NewInt(int64(one)))
		}
		return all
	}
	// The beginning and the end of both texts are as changes of nothing.
	ends := []api.Change{{A: n, B: m}}
	last := api.Change{}
	for i, c := range append(slices.Clone(s), ends...) {
		if c.A < 0 || c.N < 0 || c.B < 0 || c.M < 0 || i < len(s) && c.N == 0 && c.M == 0 {
			return api.ErrEdit
		}
		a := new(big.Int).Sub(sum(c.A), sum(last.A, last.N))
		b := new(big.Int).Sub(sum(c.B), sum(last.B, last.M))
		if a.Cmp(b) != 0 || a.Sign() < 0 {
			return api.ErrEdit
		}
		last = c
	}
	return nil
}

// refPairs are the lines that belong to no change, those of the one text and those of the other in order.
func refPairs(s []api.Change, n, m int) [][2]int {
	old, come := make([]bool, n), make([]bool, m)
	for _, c := range s {
		for i := range c.N {
			old[c.A+i] = true
		}
		for i := range c.M {
			come[c.B+i] = true
		}
	}
	var pairs [][2]int
	j := 0
	for i := range n {
		if !old[i] {
			for come[j] {
				j++
			}
			pairs = append(pairs, [2]int{i, j})
			j++
		}
	}
	return pairs
}

// refOf is the normal script, line by line: one that goes, or one that comes, begins a change or makes one longer.
func refOf(pairs [][2]int, n, m int) []api.Change {
	var s []api.Change
	open := false
	for i, j := 0, 0; i < n || j < m; {
		if len(pairs) > 0 && pairs[0] == [2]int{i, j} {
			pairs, open = pairs[1:], false
			i, j = i+1, j+1
			continue
		}
		if !open {
			s, open = append(s, api.Change{A: i, B: j}), true
		}
		if i < n && (len(pairs) == 0 || i < pairs[0][0]) {
			s[len(s)-1].N++
			i++
		} else {
			s[len(s)-1].M++
			j++
		}
	}
	return s
}

// refApply is a with the changes made in it one by one, the last one first.
func refApply(s []api.Change, a, b []int) []int {
	made := slices.Clone(a)
	for i := len(s) - 1; i >= 0; i-- {
		c := s[i]
		made = slices.Replace(made, c.A, c.A+c.N, b[c.B:c.B+c.M]...)
	}
	return made
}

// refJoin lets those lines stay that stay twice.
func refJoin(s, t []api.Change, n, m, k int) []api.Change {
	var both [][2]int
	for _, p := range refPairs(s, n, m) {
		for _, q := range refPairs(t, m, k) {
			if p[1] == q[0] {
				both = append(both, [2]int{p[0], q[1]})
			}
		}
	}
	return refOf(both, n, k)
}

// oddInts are numbers of every size, and the greatest and the least ones.
func oddInts() []int {
	return []int{math.MinInt, math.MinInt + 1, -1 << 62, -api.MaxBytes, -2, -1, 0, 1, 2, 5, api.MaxBytes, api.MaxBytes + 1, math.MaxInt32, 1 << 62, math.MaxInt - 1, math.MaxInt}
}

// oddCounts are numbers of lines that no text has.
func oddCounts() []int {
	return []int{-1, api.MaxBytes + 1, -2, -api.MaxBytes, 1 << 31, 1 << 62, math.MaxInt, math.MinInt}
}

// isErr holds an error against the one that is wanted.
func isErr(t *testing.T, what string, got, want error) {
	t.Helper()
	if want == nil && got != nil || want != nil && !errors.Is(got, want) {
		t.Errorf("%s: %v, not %v", what, got, want)
	}
}

// sameScript holds a script against the one that is wanted.
func sameScript(t *testing.T, what string, got []api.Change, err error, want []api.Change) {
	t.Helper()
	if err != nil || !slices.Equal(got, want) {
		t.Errorf("%s = %v, %v, not %v", what, got, err, want)
	}
}

// E1: ordinary scripts, and the edges that the chapter names.
func TestValid(t *testing.T) {
	for _, c := range []struct {
		s    []api.Change
		n, m int
		want error
	}{
		// the chapter's examples
		{script([4]int{1, 2, 1, 1}), 5, 4, nil},
		{script([4]int{0, 1, 0, 0}, [4]int{1, 1, 0, 2}), 2, 2, nil},
		{script([4]int{1, 0, 2, 0}), 5, 4, api.ErrEdit},
		{script([4]int{0, 0, 0, 0}), 5, 4, api.ErrEdit},
		{script([4]int{2, 1, 1, 1}), 5, 4, api.ErrEdit},
		{script([4]int{1, 0, 2, 0}), 5, 5, api.ErrEdit},
		{script([4]int{0, 0, 0, 0}), 5, 5, api.ErrEdit},
		{script([4]int{2, 1, 1, 1}), 5, 5, api.ErrEdit},
		{script([4]int{0, 2, 0, 0}, [4]int{4, 0, 2, 2}), 4, 4, nil},
		{script([4]int{0, 1, 0, 0}), 3, 2, nil},
		{script([4]int{1, 1, 1, 2}), 2, 3, nil},
		{script([4]int{0, 1, 0, 0}, [4]int{2, 1, 1, 2}), 3, 3, nil},
		// no changes
		{nil, 0, 0, nil},
		{nil, 7, 7, nil},
		{[]api.Change{}, 7, 7, nil},
		{nil, 0, 1, api.ErrEdit},
		{nil, 1, 0, api.ErrEdit},
		{nil, 7, 8, api.ErrEdit},
		{nil, api.MaxBytes, api.MaxBytes, nil},
		{nil, 0, api.MaxBytes, api.ErrEdit},
		{nil, api.MaxBytes - 1, api.MaxBytes, api.ErrEdit},
		// lines of nothing, nothing of lines, all of them
		{script([4]int{0, 0, 0, 3}), 0, 3, nil},
		{script([4]int{0, 3, 0, 0}), 3, 0, nil},
		{script([4]int{0, 3, 0, 4}), 3, 4, nil},
		{script([4]int{0, api.MaxBytes, 0, 0}), api.MaxBytes, 0, nil},
		{script([4]int{0, 0, 0, api.MaxBytes}), 0, api.MaxBytes, nil},
		{script([4]int{0, api.MaxBytes, 0, api.MaxBytes}), api.MaxBytes, api.MaxBytes, nil},
		{script([4]int{api.MaxBytes, 0, api.MaxBytes, 0}), api.MaxBytes, api.MaxBytes, api.ErrEdit},
		// a change of nothing, at each place
		{script([4]int{3, 0, 3, 0}), 3, 3, api.ErrEdit},
		{script([4]int{0, 1, 0, 1}, [4]int{2, 0, 2, 0}), 3, 3, api.ErrEdit},
		{script([4]int{0, 0, 0, 0}, [4]int{2, 1, 2, 1}), 3, 3, api.ErrEdit},
		{script([4]int{1, 1, 1, 1}, [4]int{2, 0, 2, 0}, [4]int{2, 1, 2, 1}), 3, 3, api.ErrEdit},
		// a number below 0
		{script([4]int{-1, 1, 0, 1}), 3, 3, api.ErrEdit},
		{script([4]int{0, 1, -1, 1}), 3, 3, api.ErrEdit},
		{script([4]int{-1, 1, -1, 1}), 3, 3, api.ErrEdit},
		{script([4]int{0, -1, 0, 1}), 3, 5, api.ErrEdit},
		{script([4]int{0, 1, 0, -1}), 5, 3, api.ErrEdit},
		{script([4]int{2, -1, 2, -1}), 3, 3, api.ErrEdit},
		{script([4]int{0, 2, 0, 2}, [4]int{2, -1, 2, -1}), 3, 3, api.ErrEdit},
		{script([4]int{0, 2, 0, 2}, [4]int{2, 1, 2, -1}), 4, 2, api.ErrEdit},
		// a first change whose A is not its B
		{script([4]int{1, 1, 0, 1}), 3, 2, api.ErrEdit},
		{script([4]int{0, 1, 1, 1}), 2, 3, api.ErrEdit},
		{script([4]int{1, 1, 0, 2}), 2, 2, api.ErrEdit},
		{script([4]int{1, 0, 0, 1}), 1, 1, api.ErrEdit},
		// between two changes unlike numbers of lines
		{script([4]int{0, 1, 0, 1}, [4]int{2, 1, 3, 1}), 3, 4, api.ErrEdit},
		{script([4]int{0, 1, 0, 1}, [4]int{3, 1, 2, 1}), 4, 3, api.ErrEdit},
		{script([4]int{0, 1, 0, 0}, [4]int{2, 1, 2, 1}), 3, 3, api.ErrEdit},
		{script([4]int{0, 1, 0, 1}, [4]int{2, 1, 2, 1}, [4]int{4, 1, 5, 1}), 5, 6, api.ErrEdit},
		// changes the wrong way round, and one over the other
		{script([4]int{2, 1, 2, 1}, [4]int{0, 1, 0, 1}), 3, 3, api.ErrEdit},
		{script([4]int{0, 2, 0, 2}, [4]int{1, 1, 1, 1}), 3, 3, api.ErrEdit},
		{script([4]int{0, 1, 0, 1}, [4]int{0, 1, 0, 1}), 2, 2, api.ErrEdit},
		{script([4]int{1, 1, 1, 1}, [4]int{1, 1, 1, 1}), 3, 3, api.ErrEdit},
		{script([4]int{0, 2, 0, 0}, [4]int{1, 1, 0, 1}), 3, 2, api.ErrEdit},
		{script([4]int{0, 0, 0, 2}, [4]int{0, 1, 1, 1}), 2, 3, api.ErrEdit},
		// a last change that ends ahead of, at and behind the end of either text
		{script([4]int{1, 1, 1, 1}), 3, 3, nil},
		{script([4]int{2, 1, 2, 1}), 3, 3, nil},
		{script([4]int{3, 1, 3, 1}), 3, 3, api.ErrEdit},
		{script([4]int{2, 2, 2, 2}), 3, 3, api.ErrEdit},
		{script([4]int{4, 1, 4, 1}), 3, 3, api.ErrEdit},
		{script([4]int{2, 1, 2, 2}), 3, 3, api.ErrEdit},
		{script([4]int{2, 2, 2, 1}), 3, 3, api.ErrEdit},
		{script([4]int{2, 2, 2, 1}), 3, 4, api.ErrEdit},
		{script([4]int{2, 1, 2, 2}), 4, 3, api.ErrEdit},
		{script([4]int{1, 1, 1, 1}), 3, 2, api.ErrEdit},
		{script([4]int{1, 1, 1, 1}), 2, 3, api.ErrEdit},
		{script([4]int{3, 0, 3, 1}), 3, 4, nil},
		{script([4]int{3, 1, 3, 0}), 4, 3, nil},
		{script([4]int{3, 0, 3, 2}), 3, 4, api.ErrEdit},
		// changes that touch
		{script([4]int{0, 1, 0, 1}, [4]int{1, 1, 1, 1}), 3, 3, nil},
		{script([4]int{0, 0, 0, 1}, [4]int{0, 0, 1, 1}, [4]int{0, 1, 2, 0}), 2, 3, nil},
		{script([4]int{2, 1, 2, 1}, [4]int{3, 0, 3, 1}), 3, 4, nil},
	} {
		isErr(t, fmt.Sprintf("Valid(%v, %d, %d)", c.s, c.n, c.m), Valid(c.s, c.n, c.m), c.want)
	}
}

// E1: n or m at the limits and one beyond; ErrArg comes ahead of ErrEdit.
func TestValidLimits(t *testing.T) {
	for _, odd := range oddCounts() {
		for _, s := range [][]api.Change{nil, script([4]int{0, 1, 0, 1}), script([4]int{0, 0, 0, 0}), script([4]int{-1, 0, 3, 0})} {
			for _, other := range []int{odd, -1, 0, 1, api.MaxBytes, api.MaxBytes + 1} {
				isErr(t, fmt.Sprint("Valid of ", s, odd, other), Valid(s, odd, other), api.ErrArg)
				isErr(t, fmt.Sprint("Valid of ", s, other, odd), Valid(s, other, odd), api.ErrArg)
			}
		}
	}
	isErr(t, "the limits", Valid(script([4]int{api.MaxBytes - 1, 1, api.MaxBytes - 1, 1}), api.MaxBytes, api.MaxBytes), nil)
	isErr(t, "behind the limits", Valid(script([4]int{api.MaxBytes, 1, api.MaxBytes, 1}), api.MaxBytes, api.MaxBytes), api.ErrEdit)
}

// E1: one change with any numbers, the greatest and the least ints among them.
func TestValidOfAnyChange(t *testing.T) {
	for _, a := range oddInts() {
		for _, n := range oddInts() {
			for _, b := range oddInts() {
				for _, m := range oddInts() {
					s := script([4]int{a, n, b, m})
					for _, c := range [][2]int{{5, 5}, {2, 1}, {0, 5}, {api.MaxBytes, api.MaxBytes}} {
						if got, want := Valid(s, c[0], c[1]), refValid(s, c[0], c[1]); got != want {
							t.Fatalf("Valid(%v, %d, %d) = %v, not %v", s, c[0], c[1], got, want)
						}
					}
				}
			}
		}
	}
}

// E1: two changes with any numbers: those whose ends wrap round, too.
func TestValidOfAnyTwo(t *testing.T) {
	some := []int{math.MinInt, -1, 0, 1, math.MaxInt}
	kinds := len(some)
	for code := range kinds * kinds * kinds * kinds * kinds * kinds * kinds * kinds {
		var v [8]int
		for i := range v {
			v[i] = some[code%kinds]
			code /= kinds
		}
		s := script([4]int(v[:4]), [4]int(v[4:]))
		if got, want := Valid(s, 2, 2), refValid(s, 2, 2); got != want {
			t.Fatalf("Valid(%v, 2, 2) = %v, not %v", s, got, want)
		}
	}
}

// E1: of all small lists of changes just the edit scripts are valid.
func TestValidOfAllSmall(t *testing.T) {
	var changes []api.Change
	for code := range 4 * 4 * 4 * 4 {
		changes = append(changes, api.Change{A: code % 4, N: code / 4 % 4, B: code / 16 % 4, M: code / 64})
	}
	for n := range 4 {
		for m := range 4 {
			met := 0
			check := func(s []api.Change) {
				got := Valid(s, n, m)
				if want := refValid(s, n, m); got != want {
					t.Fatalf("Valid(%v, %d, %d) = %v, not %v", s, n, m, got, want)
				}
				if got == nil {
					met++
				}
			}
			check(nil)
			for _, c := range changes {
				check([]api.Change{c})
				for _, d := range changes {
					check([]api.Change{c, d})
				}
			}
			short := 0
			for _, s := range scripts(n, m) {
				isErr(t, fmt.Sprint("Valid of ", s, n, m), Valid(s, n, m), nil)
				if len(s) <= 2 {
					short++
				}
			}
			if met != short {
				t.Errorf("from %d to %d: %d scripts of at most two changes, not %d", n, m, met, short)
			}
		}
	}
}

// E2: changes that touch become one, all others stay as they are.
func TestNormal(t *testing.T) {
	for _, c := range []struct {
		s    []api.Change
		n, m int
		want []api.Change
	}{
		{script([4]int{0, 1, 0, 0}, [4]int{1, 1, 0, 2}), 2, 2, script([4]int{0, 2, 0, 2})}, // the chapter's example
		{nil, 0, 0, nil},
		{nil, 4, 4, nil},
		{[]api.Change{}, api.MaxBytes, api.MaxBytes, nil},
		// what is normal already
		{script([4]int{1, 2, 1, 1}), 5, 4, script([4]int{1, 2, 1, 1})},
		{script([4]int{0, 1, 0, 1}, [4]int{2, 1, 2, 1}), 3, 3, script([4]int{0, 1, 0, 1}, [4]int{2, 1, 2, 1})},
		{script([4]int{0, 1, 0, 0}, [4]int{2, 1, 1, 2}), 3, 3, script([4]int{0, 1, 0, 0}, [4]int{2, 1, 1, 2})},
		{script([4]int{0, 0, 0, 1}, [4]int{1, 0, 2, 1}, [4]int{2, 0, 4, 1}), 2, 5, script([4]int{0, 0, 0, 1}, [4]int{1, 0, 2, 1}, [4]int{2, 0, 4, 1})},
		// two and more that touch: at the beginning, within, at the end
		{script([4]int{0, 1, 0, 1}, [4]int{1, 1, 1, 1}), 5, 5, script([4]int{0, 2, 0, 2})},
		{script([4]int{2, 1, 2, 1}, [4]int{3, 1, 3, 1}), 5, 5, script([4]int{2, 2, 2, 2})},
		{script([4]int{3, 1, 3, 1}, [4]int{4, 1, 4, 1}), 5, 5, script([4]int{3, 2, 3, 2})},
		{script([4]int{0, 1, 0, 0}, [4]int{1, 0, 0, 1}, [4]int{1, 0, 1, 1}, [4]int{1, 2, 2, 0}), 5, 4, script([4]int{0, 3, 0, 2})},
		{script([4]int{2, 0, 2, 1}, [4]int{2, 0, 3, 1}, [4]int{2, 0, 4, 1}, [4]int{2, 0, 5, 1}), 2, 6, script([4]int{2, 0, 2, 4})},
		{script([4]int{0, 1, 0, 1}, [4]int{1, 1, 1, 1}, [4]int{3, 1, 3, 1}, [4]int{4, 1, 4, 1}), 5, 5, script([4]int{0, 2, 0, 2}, [4]int{3, 2, 3, 2})},
		{script([4]int{0, 1, 0, 0}, [4]int{2, 0, 1, 1}, [4]int{2, 1, 2, 0}, [4]int{4, 1, 3, 1}), 5, 4, script([4]int{0, 1, 0, 0}, [4]int{2, 1, 1, 1}, [4]int{4, 1, 3, 1})},
		{script([4]int{0, api.MaxBytes - 1, 0, 0}, [4]int{api.MaxBytes - 1, 1, 0, api.MaxBytes}), api.MaxBytes, api.MaxBytes, script([4]int{0, api.MaxBytes, 0, api.MaxBytes})},
	} {
		got, err := Normal(c.s, c.n, c.m)
		sameScript(t, fmt.Sprintf("Normal(%v, %d, %d)", c.s, c.n, c.m), got, err, c.want)
	}
}

// E2: of all small scripts, the normal one lets the same lines stay, and no two of its changes touch.
func TestNormalOfAllSmall(t *testing.T) {
	for n := range 5 {
		for m := range 5 {
			for _, s := range scripts(n, m) {
				got, err := Normal(s, n, m)
				sameScript(t, fmt.Sprintf("Normal(%v, %d, %d)", s, n, m), got, err, refOf(refPairs(s, n, m), n, m))
				for i := 1; i < len(got); i++ {
					if got[i-1].A+got[i-1].N == got[i].A {
						t.Fatalf("Normal(%v, %d, %d) = %v: changes touch", s, n, m, got)
					}
				}
			}
		}
	}
}

// fitted is scripts and lists, and what Fits and Apply answer.
type fitted struct {
	s    []api.Change
	a, b []int
	err  error // of Fits
	made []int // by Apply, or nothing where changes are no script
}

func (f fitted) check(t *testing.T) {
	t.Helper()
	isErr(t, fmt.Sprintf("Fits(%v, %v, %v)", f.s, f.a, f.b), Fits(f.s, f.a, f.b), f.err)
	want := f.err
	if want == api.ErrApply {
		want = nil
	}
	made, err := Apply(f.s, f.a, f.b)
	isErr(t, fmt.Sprintf("Apply(%v, %v, %v)", f.s, f.a, f.b), err, want)
	if !slices.Equal(made, f.made) {
		t.Errorf("Apply(%v, %v, %v) = %v, not %v", f.s, f.a, f.b, made, f.made)
	}
}

// E3: scripts that fit and that do not.
func TestFitsAndApply(t *testing.T) {
	some := script([4]int{1, 2, 1, 1})
	for _, f := range []fitted{
		{some, []int{1, 2, 3, 4, 5}, []int{1, 9, 4, 5}, nil, []int{1, 9, 4, 5}},
		{nil, nil, nil, nil, nil},
		{nil, []int{}, nil, nil, nil},
		{nil, []int{3, 3, 4}, []int{3, 3, 4}, nil, []int{3, 3, 4}},
		{script([4]int{0, 3, 0, 2}), []int{1, 2, 3}, []int{4, 5}, nil, []int{4, 5}},
		{script([4]int{0, 0, 0, 2}), nil, []int{4, 5}, nil, []int{4, 5}},
		{script([4]int{0, 2, 0, 0}), []int{4, 5}, nil, nil, nil},
		{script([4]int{0, 1, 0, 0}, [4]int{2, 1, 1, 2}), []int{1, 2, 3}, []int{2, 7, 8}, nil, []int{2, 7, 8}},
		{script([4]int{1, 1, 1, 0}, [4]int{2, 0, 1, 1}), []int{-1, math.MinInt, 3}, []int{-1, math.MaxInt, 3}, nil, []int{-1, math.MaxInt, 3}},
		// a change of lines to the same ones
		{some, []int{1, 2, 3, 4, 5}, []int{1, 2, 4, 5}, nil, []int{1, 2, 4, 5}},
		// a line that stays and is another number: the first one that stays, the last one, one within, all of them
		{some, []int{1, 2, 3, 4, 5}, []int{7, 9, 4, 5}, api.ErrApply, []int{1, 9, 4, 5}},
		{some, []int{1, 2, 3, 4, 5}, []int{1, 9, 4, 7}, api.ErrApply, []int{1, 9, 4, 5}},
		{some, []int{1, 2, 3, 4, 5}, []int{1, 9, 7, 5}, api.ErrApply, []int{1, 9, 4, 5}},
		{some, []int{1, 2, 3, 4, 5}, []int{6, 7, 8, 9}, api.ErrApply, []int{1, 7, 4, 5}},
		{nil, []int{1, 2, 3}, []int{1, 2, 4}, api.ErrApply, []int{1, 2, 3}},
		{nil, []int{1, 2, 3}, []int{0, 2, 3}, api.ErrApply, []int{1, 2, 3}},
		{nil, []int{1}, []int{2}, api.ErrApply, []int{1}},
		{script([4]int{0, 1, 0, 1}, [4]int{2, 1, 2, 1}), []int{1, 2, 3}, []int{4, 5, 6}, api.ErrApply, []int{4, 2, 6}},
		{script([4]int{0, 0, 0, 1}), []int{1, 2}, []int{0, 2, 1}, api.ErrApply, []int{0, 1, 2}},
		// changes that are no script of so many lines
		{some, []int{1, 2, 3, 4}, []int{1, 9, 4, 5}, api.ErrEdit, nil},
		{some, []int{1, 2, 3, 4, 5}, []int{1, 9, 4}, api.ErrEdit, nil},
		{some, nil, nil, api.ErrEdit, nil},
		{nil, []int{1}, nil, api.ErrEdit, nil},
		{nil, nil, []int{1}, api.ErrEdit, nil},
		{script([4]int{1, 0, 1, 0}), []int{1}, []int{1}, api.ErrEdit, nil},
		{script([4]int{0, math.MaxInt, 0, math.MaxInt}), []int{1}, []int{1}, api.ErrEdit, nil},
		{script([4]int{math.MaxInt, 1, math.MaxInt, 1}), []int{1}, []int{2}, api.ErrEdit, nil},
		{script([4]int{-1, 1, -1, 1}), []int{1}, []int{2}, api.ErrEdit, nil},
	} {
		f.check(t)
	}
}

// E3: lists at the limit, and one beyond.
func TestFitsAndApplyOfLongLists(t *testing.T) {
	long := make([]int, api.MaxBytes+1)
	for i := range long {
		long[i] = i
	}
	full := long[:api.MaxBytes]
	isErr(t, "Fits of the limit", Fits(nil, full, full), nil)
	made, err := Apply(nil, full, full)
	if err != nil || !slices.Equal(made, full) {
		t.Error("Apply of the limit", len(made), err)
	}
	for _, c := range [][2][]int{{long, long}, {long, full}, {full, long}, {long, nil}, {nil, long}} {
		for _, s := range [][]api.Change{nil, script([4]int{0, 0, 0, 0})} {
			isErr(t, "Fits beyond the limit", Fits(s, c[0], c[1]), api.ErrArg)
			made, err := Apply(s, c[0], c[1])
			isErr(t, "Apply beyond the limit", err, api.ErrArg)
			if len(made) > 0 {
				t.Error("Apply: lines beside an error")
			}
		}
	}
}

// E3: all small scripts and lists.
func TestFitsAndApplyOfAllSmall(t *testing.T) {
	for n := range 4 {
		for m := range 4 {
			for _, s := range scripts(n, m) {
				for _, a := range lists(n, 2) {
					for _, b := range lists(m, 2) {
						f := fitted{s, a, b, nil, refApply(s, a, b)}
						for _, p := range refPairs(s, n, m) {
							if a[p[0]] != b[p[1]] {
								f.err = api.ErrApply
							}
						}
						f.check(t)
						if f.err == nil && !slices.Equal(f.made, b) {
							t.Errorf("%v fits %v and %v, and makes %v", s, a, b, f.made)
						}
					}
				}
			}
		}
	}
}

// E4: of scripts, and of any changes.
func TestInvert(t *testing.T) {
	for _, c := range [][2][]api.Change{
		{nil, nil},
		{[]api.Change{}, nil},
		{script([4]int{1, 2, 3, 4}), script([4]int{3, 4, 1, 2})},
		{script([4]int{0, 1, 0, 0}, [4]int{2, 1, 1, 2}), script([4]int{0, 0, 0, 1}, [4]int{1, 2, 2, 1})},
		// no scripts
		{script([4]int{0, 0, 0, 0}), script([4]int{0, 0, 0, 0})},
		{script([4]int{9, 1, 5, 0}, [4]int{2, 3, 0, 7}), script([4]int{5, 0, 9, 1}, [4]int{0, 7, 2, 3})},
		{script([4]int{-1, -2, -3, -4}), script([4]int{-3, -4, -1, -2})},
		{script([4]int{math.MinInt, math.MaxInt, math.MaxInt, math.MinInt}), script([4]int{math.MaxInt, math.MinInt, math.MinInt, math.MaxInt})},
	} {
		sameScript(t, fmt.Sprintf("Invert(%v)", c[0]), Invert(c[0]), nil, c[1])
		sameScript(t, fmt.Sprintf("Invert(%v)", c[1]), Invert(c[1]), nil, c[0])
	}
}

// E5: which lines stay: all of them, some, none.
func TestPairs(t *testing.T) {
	for _, c := range []struct {
		s    []api.Change
		n, m int
		want [][2]int
	}{
		{script([4]int{1, 2, 1, 1}), 5, 4, [][2]int{{0, 0}, {3, 2}, {4, 3}}}, // the chapter's example
		{nil, 0, 0, nil},
		{nil, 3, 3, [][2]int{{0, 0}, {1, 1}, {2, 2}}},
		{script([4]int{0, 3, 0, 3}), 3, 3, nil},
		{script([4]int{0, 3, 0, 0}), 3, 0, nil},
		{script([4]int{0, 0, 0, 3}), 0, 3, nil},
		{script([4]int{0, 1, 0, 2}, [4]int{1, 2, 2, 0}), 3, 2, nil},
		{script([4]int{0, 1, 0, 0}), 3, 2, [][2]int{{1, 0}, {2, 1}}},
		{script([4]int{2, 1, 2, 0}), 3, 2, [][2]int{{0, 0}, {1, 1}}},
		{script([4]int{0, 0, 0, 2}, [4]int{1, 1, 3, 0}, [4]int{3, 0, 4, 1}), 4, 6, [][2]int{{0, 2}, {2, 3}, {3, 5}}},
	} {
		got, err := Pairs(c.s, c.n, c.m)
		if err != nil || !slices.Equal(got, c.want) {
			t.Errorf("Pairs(%v, %d, %d) = %v, %v, not %v", c.s, c.n, c.m, got, err, c.want)
		}
	}
	all, err := Pairs(nil, api.MaxBytes, api.MaxBytes)
	if err != nil || len(all) != api.MaxBytes || all[api.MaxBytes-1] != [2]int{api.MaxBytes - 1, api.MaxBytes - 1} {
		t.Error("Pairs of the limit", len(all), err)
	}
}

// E5: of pairs, the script; and pairs that are none.
func TestOf(t *testing.T) {
	for _, c := range []struct {
		pairs [][2]int
		n, m  int
		want  []api.Change
		err   error
	}{
		{[][2]int{{0, 0}, {3, 2}, {4, 3}}, 5, 4, script([4]int{1, 2, 1, 1}), nil}, // the chapter's example, back
		// no pairs
		{nil, 0, 0, nil, nil},
		{nil, 2, 2, script([4]int{0, 2, 0, 2}), nil},
		{[][2]int{}, 2, 0, script([4]int{0, 2, 0, 0}), nil},
		{nil, 0, 2, script([4]int{0, 0, 0, 2}), nil},
		{nil, api.MaxBytes, api.MaxBytes, script([4]int{0, api.MaxBytes, 0, api.MaxBytes}), nil},
		// all lines, lines that are not side by side in the one text, in the other
		{[][2]int{{0, 0}, {1, 1}}, 2, 2, nil, nil},
		{[][2]int{{0, 0}, {2, 1}}, 3, 2, script([4]int{1, 1, 1, 0}), nil},
		{[][2]int{{0, 0}, {1, 2}}, 2, 3, script([4]int{1, 0, 1, 1}), nil},
		{[][2]int{{1, 2}}, 3, 4, script([4]int{0, 1, 0, 2}, [4]int{2, 1, 3, 1}), nil},
		{[][2]int{{0, 3}}, 1, 4, script([4]int{0, 0, 0, 3}), nil},
		{[][2]int{{3, 0}}, 4, 1, script([4]int{0, 3, 0, 0}), nil},
		// numbers at the edges and beyond
		{[][2]int{{4, 3}}, 5, 4, script([4]int{0, 4, 0, 3}), nil},
		{[][2]int{{5, 3}}, 5, 4, nil, api.ErrEdit},
		{[][2]int{{4, 4}}, 5, 4, nil, api.ErrEdit},
		{[][2]int{{3, 4}}, 5, 4, nil, api.ErrEdit},
		{[][2]int{{5, 4}}, 5, 4, nil, api.ErrEdit},
		{[][2]int{{6, 3}}, 5, 4, nil, api.ErrEdit},
		{[][2]int{{-1, 0}}, 5, 4, nil, api.ErrEdit},
		{[][2]int{{0, -1}}, 5, 4, nil, api.ErrEdit},
		{[][2]int{{-1, -1}}, 5, 4, nil, api.ErrEdit},
		{[][2]int{{-1, 0}, {0, 1}}, 5, 4, nil, api.ErrEdit},
		{[][2]int{{0, 0}}, 0, 1, nil, api.ErrEdit},
		{[][2]int{{0, 0}}, 1, 0, nil, api.ErrEdit},
		{[][2]int{{0, 0}, {5, 1}}, 5, 4, nil, api.ErrEdit},
		{[][2]int{{0, 0}, {1, 4}}, 5, 4, nil, api.ErrEdit},
		{[][2]int{{math.MaxInt, math.MaxInt}}, 5, 4, nil, api.ErrEdit},
		{[][2]int{{math.MinInt, math.MinInt}}, 5, 4, nil, api.ErrEdit},
		{[][2]int{{0, math.MaxInt}}, 5, 4, nil, api.ErrEdit},
		{[][2]int{{math.MaxInt, 0}}, 5, 4, nil, api.ErrEdit},
		// pairs that do not rise: in the first number, in the second, in both
		{[][2]int{{1, 1}, {1, 2}}, 5, 4, nil, api.ErrEdit},
		{[][2]int{{1, 1}, {0, 2}}, 5, 4, nil, api.ErrEdit},
		{[][2]int{{1, 1}, {2, 1}}, 5, 4, nil, api.ErrEdit},
		{[][2]int{{1, 1}, {2, 0}}, 5, 4, nil, api.ErrEdit},
		{[][2]int{{1, 1}, {1, 1}}, 5, 4, nil, api.ErrEdit},
		{[][2]int{{1, 1}, {0, 0}}, 5, 4, nil, api.ErrEdit},
		{[][2]int{{0, 0}, {1, 1}, {3, 3}, {3, 3}}, 5, 4, nil, api.ErrEdit},
		// n or m that is none: ahead of what the pairs are
		{nil, -1, 0, nil, api.ErrArg},
		{nil, 0, -1, nil, api.ErrArg},
		{nil, api.MaxBytes + 1, 0, nil, api.ErrArg},
		{nil, 0, api.MaxBytes + 1, nil, api.ErrArg},
		{[][2]int{{1, 1}, {0, 0}}, -1, 4, nil, api.ErrArg},
		{[][2]int{{-1, 1}}, 4, api.MaxBytes + 1, nil, api.ErrArg},
		{[][2]int{{0, 0}}, math.MaxInt, math.MinInt, nil, api.ErrArg},
	} {
		got, err := Of(c.pairs, c.n, c.m)
		what := fmt.Sprintf("Of(%v, %d, %d)", c.pairs, c.n, c.m)
		isErr(t, what, err, c.err)
		sameScript(t, what, got, nil, c.want)
	}
	for _, odd := range oddCounts() {
		_, err := Of(nil, odd, 1)
		isErr(t, fmt.Sprint("Of from ", odd), err, api.ErrArg)
		_, err = Of(nil, 1, odd)
		isErr(t, fmt.Sprint("Of to ", odd), err, api.ErrArg)
	}
}

// E5: all small lists of pairs.
func TestOfAllSmall(t *testing.T) {
	var some [][2]int
	for code := range 5 * 5 {
		some = append(some, [2]int{code%5 - 1, code/5 - 1})
	}
	check := func(pairs [][2]int, n, m int) {
		last, ok := [2]int{-1, -1}, true
		for _, p := range pairs {
			ok = ok && p[0] > last[0] && p[1] > last[1] && p[0] < n && p[1] < m
			last = p
		}
		got, err := Of(pairs, n, m)
		if !ok {
			if err != api.ErrEdit || len(got) > 0 {
				t.Fatalf("Of(%v, %d, %d) = %v, %v", pairs, n, m, got, err)
			}
			return
		}
		sameScript(t, fmt.Sprintf("Of(%v, %d, %d)", pairs, n, m), got, err, refOf(pairs, n, m))
		back, err := Pairs(got, n, m)
		if err != nil || !slices.Equal(back, pairs) {
			t.Fatalf("Pairs(Of(%v, %d, %d)) = %v, %v", pairs, n, m, back, err)
		}
	}
	for n := range 4 {
		for m := range 4 {
			check(nil, n, m)
			for _, p := range some {
				check([][2]int{p}, n, m)
				for _, q := range some {
					check([][2]int{p, q}, n, m)
					for _, r := range some {
						check([][2]int{p, q, r}, n, m)
					}
				}
			}
		}
	}
}

// E6: changes that meet, that overlap in part and that lie apart; scripts without changes.
func TestJoin(t *testing.T) {
	for _, c := range []struct {
		s, t    []api.Change
		n, m, k int
		want    []api.Change
	}{
		{script([4]int{0, 1, 0, 0}), script([4]int{1, 1, 1, 2}), 3, 2, 3, script([4]int{0, 1, 0, 0}, [4]int{2, 1, 1, 2})}, // the chapter's example
		// without changes
		{nil, nil, 0, 0, 0, nil},
		{nil, nil, 4, 4, 4, nil},
		{script([4]int{1, 1, 1, 1}), nil, 3, 3, 3, script([4]int{1, 1, 1, 1})},
		{nil, script([4]int{1, 1, 1, 1}), 3, 3, 3, script([4]int{1, 1, 1, 1})},
		{script([4]int{0, 1, 0, 1}, [4]int{1, 1, 1, 1}), nil, 3, 3, 3, script([4]int{0, 2, 0, 2})},
		{nil, script([4]int{0, 1, 0, 1}, [4]int{1, 1, 1, 1}), 3, 3, 3, script([4]int{0, 2, 0, 2})},
		// apart, and touching
		{script([4]int{0, 1, 0, 1}), script([4]int{2, 1, 2, 1}), 3, 3, 3, script([4]int{0, 1, 0, 1}, [4]int{2, 1, 2, 1})},
		{script([4]int{2, 1, 2, 1}), script([4]int{0, 1, 0, 1}), 3, 3, 3, script([4]int{0, 1, 0, 1}, [4]int{2, 1, 2, 1})},
		{script([4]int{0, 1, 0, 1}), script([4]int{1, 1, 1, 1}), 3, 3, 3, script([4]int{0, 2, 0, 2})},
		{script([4]int{1, 1, 1, 1}), script([4]int{0, 1, 0, 1}), 3, 3, 3, script([4]int{0, 2, 0, 2})},
		// the same lines, some of them, one within the other
		{script([4]int{1, 1, 1, 1}), script([4]int{1, 1, 1, 1}), 3, 3, 3, script([4]int{1, 1, 1, 1})},
		{script([4]int{1, 2, 1, 2}), script([4]int{2, 2, 2, 2}), 5, 5, 5, script([4]int{1, 3, 1, 3})},
		{script([4]int{2, 2, 2, 2}), script([4]int{1, 2, 1, 2}), 5, 5, 5, script([4]int{1, 3, 1, 3})},
		{script([4]int{1, 1, 1, 3}), script([4]int{2, 1, 2, 0}), 3, 5, 4, script([4]int{1, 1, 1, 2})},
		{script([4]int{2, 1, 2, 1}), script([4]int{1, 3, 1, 0}), 5, 5, 2, script([4]int{1, 3, 1, 0})},
		// what comes and goes again leaves nothing
		{script([4]int{1, 0, 1, 2}), script([4]int{1, 2, 1, 0}), 3, 5, 3, nil},
		{script([4]int{1, 0, 1, 2}), script([4]int{2, 1, 2, 0}), 3, 5, 4, script([4]int{1, 0, 1, 1})},
		// what goes and comes again is a change
		{script([4]int{1, 1, 1, 0}), script([4]int{1, 0, 1, 1}), 3, 2, 3, script([4]int{1, 1, 1, 1})},
		// one change over many
		{script([4]int{0, 1, 0, 0}, [4]int{2, 1, 1, 0}, [4]int{4, 1, 2, 0}), script([4]int{0, 2, 0, 1}), 5, 2, 1, script([4]int{0, 5, 0, 1})},
		{script([4]int{0, 5, 0, 5}), script([4]int{0, 1, 0, 1}, [4]int{2, 1, 2, 1}, [4]int{4, 1, 4, 1}), 5, 5, 5, script([4]int{0, 5, 0, 5})},
		// many runs in one, and one in many
		{nil, script([4]int{1, 1, 1, 0}, [4]int{3, 1, 2, 0}, [4]int{5, 1, 3, 1}), 7, 7, 5, script([4]int{1, 1, 1, 0}, [4]int{3, 1, 2, 0}, [4]int{5, 1, 3, 1})},
		{script([4]int{1, 0, 1, 1}, [4]int{3, 1, 4, 0}), script([4]int{3, 1, 3, 2}), 5, 5, 6, script([4]int{1, 0, 1, 1}, [4]int{2, 2, 3, 2})},
		{script([4]int{0, api.MaxBytes, 0, 0}), script([4]int{0, 0, 0, api.MaxBytes}), api.MaxBytes, 0, api.MaxBytes, script([4]int{0, api.MaxBytes, 0, api.MaxBytes})},
	} {
		got, err := Join(c.s, c.t, c.n, c.m, c.k)
		sameScript(t, fmt.Sprintf("Join(%v, %v, %d, %d, %d)", c.s, c.t, c.n, c.m, c.k), got, err, c.want)
	}
}

// E6: the first script's error, then the second's.
func TestJoinErrors(t *testing.T) {
	good := script([4]int{1, 1, 1, 1})
	bad := script([4]int{1, 0, 1, 0})
	for _, c := range []struct {
		s, t    []api.Change
		n, m, k int
		want    error
	}{
		{good, good, 3, 3, 3, nil},
		{bad, good, 3, 3, 3, api.ErrEdit},
		{good, bad, 3, 3, 3, api.ErrEdit},
		{bad, bad, 3, 3, 3, api.ErrEdit},
		{good, good, 3, 4, 3, api.ErrEdit},
		{good, good, 4, 3, 3, api.ErrEdit},
		{good, good, 3, 3, 4, api.ErrEdit},
		{nil, nil, 0, 0, 1, api.ErrEdit},
		{nil, nil, 1, 0, 0, api.ErrEdit},
		{good, good, -1, 3, 3, api.ErrArg},
		{good, good, 3, -1, 3, api.ErrArg},
		{good, good, 3, 3, -1, api.ErrArg},
		{good, good, api.MaxBytes + 1, 3, 3, api.ErrArg},
		{good, good, 3, api.MaxBytes + 1, 3, api.ErrArg},
		{good, good, 3, 3, api.MaxBytes + 1, api.ErrArg},
		{bad, good, 3, -1, 3, api.ErrArg},
		{bad, good, 3, 3, -1, api.ErrEdit}, // the first one's comes first
		{bad, bad, 3, 3, math.MaxInt, api.ErrEdit},
		{nil, nil, 3, 2, math.MinInt, api.ErrEdit},
		{good, bad, 3, 3, -1, api.ErrArg},
	} {
		got, err := Join(c.s, c.t, c.n, c.m, c.k)
		what := fmt.Sprintf("Join(%v, %v, %d, %d, %d)", c.s, c.t, c.n, c.m, c.k)
		isErr(t, what, err, c.want)
		if err != nil && len(got) > 0 {
			t.Error(what, got, "beside", err)
		}
	}
}

// E6: all small scripts, two and two.
func TestJoinOfAllSmall(t *testing.T) {
	for n := range 4 {
		for m := range 4 {
			for k := range 4 {
				ofT := scripts(m, k)
				for _, s := range scripts(n, m) {
					for _, u := range ofT {
						got, err := Join(s, u, n, m, k)
						sameScript(t, fmt.Sprintf("Join(%v, %v, %d, %d, %d)", s, u, n, m, k), got, err, refJoin(s, u, n, m, k))
					}
				}
			}
		}
	}
}

// E7: sums, up to 2^62 and one more, and numbers below 0.
func TestCost(t *testing.T) {
	const most = 1 << 62
	for _, c := range []struct {
		s          []api.Change
		gone, come int
	}{
		{script([4]int{1, 2, 1, 1}), 2, 1}, // the chapter's example
		{nil, 0, 0},
		{[]api.Change{}, 0, 0},
		{script([4]int{0, 1, 0, 2}, [4]int{4, 3, 5, 4}, [4]int{9, 5, 9, 6}), 9, 12},
		// any changes, scripts or not
		{script([4]int{0, 0, 0, 0}), 0, 0},
		{script([4]int{7, 3, 1, 4}, [4]int{7, 3, 1, 4}), 6, 8},
		{script([4]int{math.MaxInt, 3, math.MaxInt, 4}, [4]int{0, 1, 0, 0}), 4, 4},
		// below 0, in each place, in the first change and in the last one
		{script([4]int{-1, 2, 1, 1}), 0, 0},
		{script([4]int{1, -1, 1, 1}), 0, 0},
		{script([4]int{1, 2, -1, 1}), 0, 0},
		{script([4]int{1, 2, 1, -1}), 0, 0},
		{script([4]int{math.MinInt, 2, 1, 1}), 0, 0},
		{script([4]int{1, math.MinInt, 1, 1}), 0, 0},
		{script([4]int{1, 2, math.MinInt, 1}), 0, 0},
		{script([4]int{1, 2, 1, math.MinInt}), 0, 0},
		{script([4]int{1, 2, 1, 1}, [4]int{-1, 1, 1, 1}), 0, 0},
		{script([4]int{1, 2, 1, 1}, [4]int{1, -1, 1, 1}), 0, 0},
		{script([4]int{1, 2, 1, 1}, [4]int{1, 1, -1, 1}), 0, 0},
		{script([4]int{1, 2, 1, 1}, [4]int{1, 1, 1, -1}), 0, 0},
		// 2^62, and one more
		{script([4]int{0, most, 0, most}), most, most},
		{script([4]int{0, most, 0, 0}), most, 0},
		{script([4]int{0, 0, 0, most}), 0, most},
		{script([4]int{0, most + 1, 0, 0}), 0, 0},
		{script([4]int{0, 0, 0, most + 1}), 0, 0},
		{script([4]int{0, most + 1, 0, 1}), 0, 0},
		{script([4]int{0, 1, 0, most + 1}), 0, 0},
		{script([4]int{0, most - 1, 0, 5}, [4]int{0, 1, 0, 5}), most, 10},
		{script([4]int{0, most - 1, 0, 5}, [4]int{0, 2, 0, 5}), 0, 0},
		{script([4]int{0, 5, 0, most - 1}, [4]int{0, 5, 0, 1}), 10, most},
		{script([4]int{0, 5, 0, most - 1}, [4]int{0, 5, 0, 2}), 0, 0},
		{script([4]int{0, 1, 0, 1}, [4]int{0, most - 1, 0, most - 1}), most, most},
		{script([4]int{0, most, 0, most}, [4]int{1, 0, 1, 0}), most, most},
		{script([4]int{0, most, 0, 1}, [4]int{1, 1, 1, 0}), 0, 0},
		{script([4]int{0, 1, 0, most}, [4]int{1, 0, 1, 1}), 0, 0},
		// sums that wrap round, to below 0 and to less
		{script([4]int{0, math.MaxInt, 0, 1}), 0, 0},
		{script([4]int{0, 1, 0, math.MaxInt}), 0, 0},
		{script([4]int{0, most, 0, 1}, [4]int{0, most, 0, 1}), 0, 0},
		{script([4]int{0, 1, 0, most}, [4]int{0, 1, 0, most}), 0, 0},
		{script([4]int{0, most, 0, 1}, [4]int{0, math.MaxInt, 0, 1}), 0, 0},
		{script([4]int{0, 1, 0, most}, [4]int{0, 1, 0, math.MaxInt}), 0, 0},
		{script([4]int{0, most, 0, 1}, [4]int{0, most, 0, 1}, [4]int{0, most, 0, 1}, [4]int{0, most, 0, 1}), 0, 0},
		{script([4]int{0, math.MaxInt, 0, 1}, [4]int{0, math.MaxInt, 0, 1}), 0, 0},
		{script([4]int{0, 1, 0, math.MaxInt}, [4]int{0, 1, 0, math.MaxInt}, [4]int{0, 1, 0, 3}), 0, 0},
	} {
		if gone, come := Cost(c.s); gone != c.gone || come != c.come {
			t.Errorf("Cost(%v) = %d, %d, not %d, %d", c.s, gone, come, c.gone, c.come)
		}
	}
}

// E8: what holds of one script, over all small ones.
func TestTheoremOfOne(t *testing.T) {
	for n := range 5 {
		for m := range 5 {
			for _, s := range scripts(n, m) {
				what := fmt.Sprintf("%v from %d to %d", s, n, m)
				back := Invert(s)
				isErr(t, "Invert of "+what, Valid(back, m, n), nil)
				sameScript(t, "Invert twice of "+what, Invert(back), nil, s)
				once, err := Normal(s, n, m)
				sameScript(t, "Normal of "+what, once, err, refOf(refPairs(s, n, m), n, m))
				twice, err := Normal(once, n, m)
				sameScript(t, "Normal twice of "+what, twice, err, once)
				pairs, err := Pairs(s, n, m)
				isErr(t, "Pairs of "+what, err, nil)
				of, err := Of(pairs, n, m)
				sameScript(t, "Of of Pairs of "+what, of, err, once)
				joined, err := Join(s, nil, n, m, m)
				sameScript(t, "Join with nothing of "+what, joined, err, once)
				joined, err = Join(nil, s, n, n, m)
				sameScript(t, "Join of nothing with "+what, joined, err, once)
				gone, come := Cost(s)
				if n-gone != len(pairs) || m-come != len(pairs) {
					t.Errorf("Cost of %s: %d, %d, with %d pairs", what, gone, come, len(pairs))
				}
			}
		}
	}
}

// made is a list for which a script fits one that is given: numbers of its own come.
func made(s []api.Change, a []int, m, fresh int) []int {
	b := make([]int, m)
	for i := range b {
		b[i] = fresh + i
	}
	for _, p := range refPairs(s, len(a), m) {
		b[p[1]] = a[p[0]]
	}
	return b
}

// E8: what holds of two scripts, over all small ones.
func TestTheoremOfTwo(t *testing.T) {
	for n := range 4 {
		for m := range 4 {
			for k := range 3 {
				ofT := scripts(m, k)
				for _, s := range scripts(n, m) {
					a := made(nil, make([]int, n), n, 0)
					for i := range a {
						a[i] = 100 + i
					}
					b := made(s, a, m, 200)
					isErr(t, fmt.Sprintf("Fits(%v, %v, %v)", s, a, b), Fits(s, a, b), nil)
					isErr(t, fmt.Sprintf("Fits of the Invert of %v", s), Fits(Invert(s), b, a), nil)
					for _, u := range ofT {
						c := made(u, b, k, 300)
						joined, err := Join(s, u, n, m, k)
						what := fmt.Sprintf("Join(%v, %v, %d, %d, %d)", s, u, n, m, k)
						isErr(t, what, err, nil)
						isErr(t, what+": fits", Fits(joined, a, c), nil)
						turned, err := Join(Invert(u), Invert(s), k, m, n)
						sameScript(t, what+": turned", turned, err, Invert(joined))
					}
				}
			}
		}
	}
}

// E8: three scripts are joined to the same one, however they are put together.
func TestTheoremOfThree(t *testing.T) {
	for n := range 3 {
		for m := range 3 {
			for k := range 3 {
				for l := range 3 {
					ofT, ofU := scripts(m, k), scripts(k, l)
					for _, s := range scripts(n, m) {
						for _, v := range ofT {
							first, err := Join(s, v, n, m, k)
							isErr(t, "the first two", err, nil)
							for _, u := range ofU {
								left, err := Join(first, u, n, k, l)
								isErr(t, "the left one", err, nil)
								last, err := Join(v, u, m, k, l)
								isErr(t, "the last two", err, nil)
								right, err := Join(s, last, n, m, l)
								sameScript(t, fmt.Sprintf("Join of %v, %v, %v", s, v, u), right, err, left)
							}
						}
					}
				}
			}
		}
	}
}

// isErrno holds an error: nil, or an api.Errno.
func isErrno(t *testing.T, what string, err error) {
	t.Helper()
	var number api.Errno
	if err != nil && !errors.As(err, &number) {
		t.Errorf("%s: %v is no api.Errno", what, err)
	}
}

// P1: no call panics or fails but by an api.Errno, whatever it is given, and nothing stands beside an error.
func TestNothingPanics(t *testing.T) {
	changes := [][]api.Change{nil, {}, script([4]int{1, 2, 1, 1}), script([4]int{0, 1, 0, 0}, [4]int{1, 1, 0, 2})}
	for _, a := range oddInts() {
		for _, b := range oddInts() {
			changes = append(changes, script([4]int{a, b, a, b}), script([4]int{a, 1, b, 1}), script([4]int{1, a, 1, b}), script([4]int{0, 1, 0, 1}, [4]int{a, b, a, b}))
		}
	}
	short := [][]int{nil, {}, {1}, {1, 2, 3, 4, 5}, {math.MinInt, math.MaxInt, 0, 0}}
	beside := func(what string, length int, err error) {
		isErrno(t, what, err)
		if err != nil && length > 0 {
			t.Error(what, "something stands beside", err)
		}
	}
	counts := append(oddCounts(), 0, 1, 4, 5)
	for _, s := range changes {
		Invert(s)
		Cost(s)
		for _, n := range counts {
			for _, m := range counts {
				isErrno(t, "Valid", Valid(s, n, m))
				normal, err := Normal(s, n, m)
				beside("Normal", len(normal), err)
				pairs, err := Pairs(s, n, m)
				beside("Pairs", len(pairs), err)
				joined, err := Join(s, s, n, m, n)
				beside("Join", len(joined), err)
			}
		}
		for _, a := range short {
			for _, b := range short {
				isErrno(t, "Fits", Fits(s, a, b))
				made, err := Apply(s, a, b)
				beside("Apply", len(made), err)
				for _, least := range oddInts() {
					moves, err := Moves(s, a, b, least)
					beside("Moves", len(moves), err)
				}
			}
		}
	}
	for _, a := range oddInts() {
		for _, b := range oddInts() {
			for _, n := range counts {
				of, err := Of([][2]int{{a, b}, {b, a}}, n, 5)
				beside("Of", len(of), err)
			}
		}
	}
}

// E2, E5, E6: Valid's error is Normal's, Pairs's and Join's, too.
func TestValidsErrors(t *testing.T) {
	for _, c := range []struct {
		s    []api.Change
		n, m int
		want error
	}{
		{nil, -1, 0, api.ErrArg},
		{nil, 0, -1, api.ErrArg},
		{nil, api.MaxBytes + 1, api.MaxBytes, api.ErrArg},
		{nil, api.MaxBytes, api.MaxBytes + 1, api.ErrArg},
		{script([4]int{0, 0, 0, 0}), -1, 3, api.ErrArg},
		{nil, 1, 2, api.ErrEdit},
		{script([4]int{0, 0, 0, 0}), 3, 3, api.ErrEdit},
		{script([4]int{0, 2, 0, 2}, [4]int{1, 1, 1, 1}), 3, 3, api.ErrEdit},
		{script([4]int{0, math.MaxInt, 0, math.MaxInt}, [4]int{1, 1, 1, 1}), 3, 3, api.ErrEdit},
	} {
		what := fmt.Sprintf(" of %v, %d, %d", c.s, c.n, c.m)
		isErr(t, "Valid"+what, Valid(c.s, c.n, c.m), c.want)
		_, err := Normal(c.s, c.n, c.m)
		isErr(t, "Normal"+what, err, c.want)
		_, err = Pairs(c.s, c.n, c.m)
		isErr(t, "Pairs"+what, err, c.want)
		_, err = Join(c.s, nil, c.n, c.m, c.m)
		isErr(t, "Join"+what, err, c.want)
	}
}

// soon fails where a call takes long.
func soon(t *testing.T, what string, call func()) {
	t.Helper()
	done := make(chan struct{})
	go func() {
		call()
		close(done)
	}()
	select {
	case <-done:
	case <-time.After(20 * time.Second):
		t.Fatal(what, "takes too long")
	}
}

// P1: calls end, of as many changes as there may be.
func TestEndsSoon(t *testing.T) {
	const n = 1 << 20
	var s []api.Change
	for i := range n {
		s = append(s, api.Change{A: 2 * i, N: 1, B: 2 * i, M: 1})
	}
	soon(t, "a script of many changes", func() {
		normal, err := Normal(s, 2*n, 2*n)
		sameScript(t, "Normal of many", normal, err, s)
		pairs, err := Pairs(s, 2*n, 2*n)
		if err != nil || len(pairs) != n {
			t.Error("Pairs of many", len(pairs), err)
		}
		of, err := Of(pairs, 2*n, 2*n)
		sameScript(t, "Of of many", of, err, s)
		joined, err := Join(s, s, 2*n, 2*n, 2*n)
		sameScript(t, "Join of many", joined, err, s)
		joined, err = Join(s, nil, 2*n, 2*n, 2*n)
		sameScript(t, "Join of many with nothing", joined, err, s)
		joined, err = Join(nil, s, 2*n, 2*n, 2*n)
		sameScript(t, "Join of nothing with many", joined, err, s)
	})
}
