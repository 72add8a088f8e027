package hunks

import (
	"fmt"
	"math"
	"selvage/api"
	"slices"
	"testing"
)

// tellsScript fails where the script of hunks is not the one that is wanted.
func tellsScript(t *testing.T, l []api.Hunk, n, m int, want []api.Change) {
	t.Helper()
	got, err := Script(l, n, m)
	if err != nil || !slices.Equal(got, want) {
		t.Errorf("%s, %d to %d: %v, %v, not %v", shown(l...), n, m, got, err, want)
	}
}

// H4: runs of rows, at the beginning, in the middle and at the end of hunks.
func TestScript(t *testing.T) {
	tellsScript(t, nil, 0, 0, nil)
	tellsScript(t, []api.Hunk{}, 7, 7, nil)
	tellsScript(t, nil, api.MaxBytes, api.MaxBytes, nil)
	tellsScript(t, []api.Hunk{hunk(1, 1, 0, 0, "-a\n")}, 1, 0, script([4]int{0, 1, 0, 0}))
	tellsScript(t, []api.Hunk{hunk(0, 0, 1, 1, "+a\n")}, 0, 1, script([4]int{0, 0, 0, 1}))
	tellsScript(t, []api.Hunk{hunk(3, 1, 2, 0, "-a\n")}, 9, 8, script([4]int{2, 1, 2, 0}))
	tellsScript(t, []api.Hunk{hunk(2, 0, 3, 1, "+a\n")}, 8, 9, script([4]int{2, 0, 2, 1}))
	tellsScript(t, []api.Hunk{hunk(2, 3, 2, 3, " a\n", "-b\n", "+c\n", " d\n")}, 5, 5, script([4]int{2, 1, 2, 1}))
	// a run is as long as it is, whatever the order of its rows
	tellsScript(t, []api.Hunk{hunk(1, 2, 1, 3, "+a\n", "-b\n", "+c\n", "-d\n", "+e\n")}, 2, 3, script([4]int{0, 2, 0, 3}))
	// several runs in one hunk
	tellsScript(t, []api.Hunk{hunk(1, 5, 1, 4, "-a\n", " b\n", "+c\n", " d\n", " e\n", "-f\n")}, 7, 6, script([4]int{0, 1, 0, 0}, [4]int{2, 0, 1, 1}, [4]int{4, 1, 4, 0}))
	// several hunks
	tellsScript(t, []api.Hunk{
		hunk(2, 2, 2, 3, " a\n", "+b\n", " c\n"),
		hunk(6, 1, 7, 1, "-d\n", "+e\n"),
		hunk(9, 2, 10, 1, "-f\n", " g\n"),
	}, 12, 12, script([4]int{2, 0, 2, 1}, [4]int{5, 1, 6, 1}, [4]int{8, 1, 9, 0}))
	// changes of hunks that touch are one: the script is normal
	tellsScript(t, []api.Hunk{hunk(2, 1, 1, 0, "-a\n"), hunk(2, 0, 2, 1, "+b\n"), hunk(3, 1, 2, 0, "-c\n")}, 4, 3, script([4]int{1, 2, 1, 1}))
	tellsScript(t, []api.Hunk{hunk(1, 2, 1, 1, " a\n", "-b\n"), hunk(3, 2, 2, 1, "-c\n", " d\n")}, 4, 2, script([4]int{1, 2, 1, 0}))
	// lines that are not whole
	tellsScript(t, []api.Hunk{hunk(1, 2, 1, 2, " a\n", "-b", "+c")}, 2, 2, script([4]int{1, 1, 1, 1}))
	tellsScript(t, []api.Hunk{hunk(1, 1, 0, 0, "-a"), hunk(1, 0, 1, 1, "+a\n")}, 1, 1, script([4]int{0, 1, 0, 1}))
}

// H4: Order's errors come first, then that of numbers of lines that do not fit.
func TestScriptErrors(t *testing.T) {
	const most = api.MaxNumber
	good := []api.Hunk{hunk(2, 2, 2, 1, "-a\n", " b\n")}
	turned := []api.Hunk{hunk(4, 1, 4, 1, "-a\n", "+b\n"), good[0]}
	none := []api.Hunk{hunk(2, 2, 2, 2, " a\n", " b\n")}
	for _, c := range []struct {
		name string
		l    []api.Hunk
		n, m int
		want error
	}{
		{"just as many lines", good, 3, 2, nil},
		{"more behind", good, 9, 8, nil},
		{"the limit", good, api.MaxBytes, api.MaxBytes - 1, nil},
		{"a row of both beyond the ends of the texts, which edits.Valid is not told of", good, 2, 1, nil},
		{"a change beyond the ends of the texts", good, 1, 0, api.ErrEdit},
		{"one old line too few", good, 2, 2, api.ErrEdit},
		{"one old line too many", good, 4, 2, api.ErrEdit},
		{"one new line too many", good, 3, 3, api.ErrEdit},
		{"one new line too few", good, 3, 1, api.ErrEdit},
		{"no lines", good, 0, 0, api.ErrEdit},
		{"no hunks, unlike lengths", nil, 3, 2, api.ErrEdit},
		{"no hunks, below 0", nil, -1, -1, api.ErrEdit},
		{"no hunks, old below 0", nil, -1, 0, api.ErrEdit},
		{"no hunks, new below 0", nil, 0, -1, api.ErrEdit},
		{"no hunks, the least", nil, math.MinInt, math.MinInt, api.ErrEdit},
		{"no hunks, the greatest", nil, math.MaxInt, math.MaxInt, api.ErrEdit},
		{"no hunks, beyond the limit", nil, api.MaxBytes + 1, api.MaxBytes + 1, api.ErrEdit},
		{"old beyond the limit", good, api.MaxBytes + 1, api.MaxBytes, api.ErrEdit},
		{"below 0", good, -3, -2, api.ErrEdit},
		{"the greatest numbers", good, math.MaxInt, math.MaxInt - 1, api.ErrEdit},
		{"a hunk far on", []api.Hunk{hunk(most-1, 1, most-1, 1, "-a\n", "+b\n")}, 3, 3, api.ErrEdit},
		{"a hunk far on, and as many lines", []api.Hunk{hunk(most-1, 1, most-1, 1, "-a\n", "+b\n")}, most, most, api.ErrEdit},
		{"a hunk that may not be", none, 3, 3, api.ErrHunk},
		{"a hunk that may not be, and no lines", none, -1, 3, api.ErrHunk},
		{"hunks out of order", turned, 9, 8, api.ErrOrder},
		{"hunks out of order, and no lines", turned, -1, -1, api.ErrOrder},
		{"hunks out of order, one that may not be", append(slices.Clone(turned), none...), 9, 8, api.ErrHunk},
		{"a first one whose places are apart", []api.Hunk{hunk(2, 1, 3, 1, "-a\n", "+b\n")}, 9, 9, api.ErrOrder},
	} {
		s, err := Script(c.l, c.n, c.m)
		isErr(t, c.name, err, c.want)
		if err != nil && len(s) > 0 {
			t.Errorf("%s: %v beside %v", c.name, s, err)
		}
	}
}

// H4: all small hunks, with all small numbers of lines, by rows that are gone through one by one.
func TestScriptOfAllSmall(t *testing.T) {
	for _, rows := range someRows(5, []int{1, 2, 3}, []string{"x\n"}) {
		for at := range 3 {
			h := plainHunk(rows, at, at)
			if !mayBe(h) {
				continue
			}
			want, i, j := []api.Change(nil), at, at
			for k, r := range rows {
				if r.Kind != api.RowBoth && (k == 0 || rows[k-1].Kind == api.RowBoth) {
					want = append(want, api.Change{A: i, B: j})
				}
				n, m := counts(rows[k : k+1])
				i, j = i+n, j+m
				if r.Kind != api.RowBoth {
					want[len(want)-1].N += n
					want[len(want)-1].M += m
				}
			}
			// the rows behind the last change are not asked: edits.Valid is, of the changes alone
			last := want[len(want)-1]
			for n := -1; n <= 9; n++ {
				for m := -1; m <= 9; m++ {
					got, err := Script([]api.Hunk{h}, n, m)
					if left := n - last.A - last.N; left < 0 || left != m-last.B-last.M {
						isErr(t, fmt.Sprint(shown(h), n, m), err, api.ErrEdit)
					} else if err != nil || !slices.Equal(got, want) {
						t.Errorf("%s, %d to %d: %v, %v, not %v", shown(h), n, m, got, err, want)
					}
				}
			}
		}
	}
}
