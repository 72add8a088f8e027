package hunks

import (
	"fmt"
	"math"
	"selvage/api"
	"slices"
	"strings"
	"testing"
)

// scripts are all edit scripts from n lines to m, those with changes that touch too: any number of lines that stay, then a change, and so on.
func scripts(n, m int) [][]api.Change {
	var all [][]api.Change
	var grow func(s []api.Change, a, b int)
	grow = func(s []api.Change, a, b int) {
		if n-a == m-b {
			all = append(all, slices.Clone(s))
		}
		for stay := 0; a+stay <= n && b+stay <= m; stay++ {
			for old := 0; a+stay+old <= n; old++ {
				for come := 0; b+stay+come <= m; come++ {
					if old+come > 0 {
						c := api.Change{A: a + stay, N: old, B: b + stay, M: come}
						grow(append(slices.Clone(s), c), c.A+c.N, c.B+c.M)
					}
				}
			}
		}
	}
	grow(nil, 0, 0)
	return all
}

// plainNormal is a script with changes that touch put together.
func plainNormal(s []api.Change) []api.Change {
	var normal []api.Change
	for _, c := range s {
		last := len(normal) - 1
		if last >= 0 && normal[last].A+normal[last].N == c.A {
			normal[last].N += c.N
			normal[last].M += c.M
		} else {
			normal = append(normal, c)
		}
	}
	return normal
}

// allRows are the rows of a whole diff, with all lines that stay.
func allRows(s []api.Change, a, b []string) []api.Row {
	var rows []api.Row
	at := 0
	put := func(kind int, texts []string) {
		for _, text := range texts {
			rows = append(rows, api.Row{Kind: kind, Text: text})
		}
	}
	for _, c := range plainNormal(s) {
		put(api.RowBoth, a[at:c.A])
		put(api.RowOld, a[c.A:c.A+c.N])
		put(api.RowNew, b[c.B:c.B+c.M])
		at = c.A + c.N
	}
	put(api.RowBoth, a[at:])
	return rows
}

// plainHunk is the hunk of some rows with so many lines ahead of it in both texts.
func plainHunk(rows []api.Row, old, fresh int) api.Hunk {
	n, m := counts(rows)
	if n > 0 {
		old++
	}
	if m > 0 {
		fresh++
	}
	return api.Hunk{A: old, N: n, B: fresh, M: m, Rows: slices.Clone(rows)}
}

// cutRows are hunks of rows that begin at the places old and fresh: a row of both is left if a changed one stands at most context rows from it, and rows that are left one behind the other are a hunk.
func cutRows(rows []api.Row, old, fresh, context int) []api.Hunk {
	isLeft := func(i int) bool {
		for k, r := range rows {
			if r.Kind != api.RowBoth && max(k-i, i-k) <= context {
				return true
			}
		}
		return false
	}
	var l []api.Hunk
	from := 0
	for i := 0; i <= len(rows); i++ {
		if i < len(rows) && isLeft(i) {
			continue
		}
		if i > from {
			n, m := counts(rows[:from])
			l = append(l, plainHunk(rows[from:i], old+n, fresh+m))
		}
		from = i + 1
	}
	return l
}

// builds fails where Build does not make the hunks that are wanted.
func builds(t *testing.T, s []api.Change, a, b []string, context int, want ...api.Hunk) {
	t.Helper()
	got, err := Build(s, a, b, context)
	areHunks(t, fmt.Sprintf("%v of %q and %q, %d", s, a, b, context), got, err, want)
}

// changedAt are the lines 1 to n, with others in the place of some.
func changedAt(n int, places ...int) []string {
	l := counted(n)
	for _, at := range places {
		l[at] = fmt.Sprintln("x", at)
	}
	return l
}

// oneEach is a script of changes of one line each, at some places.
func oneEach(places ...int) []api.Change {
	var s []api.Change
	for _, at := range places {
		s = append(s, api.Change{A: at, N: 1, B: at, M: 1})
	}
	return s
}

// H2: the chapter's examples.
func TestBuildExamples(t *testing.T) {
	a, b := counted(9), counted(9)
	b[4] = "x\n"
	s := script([4]int{4, 1, 4, 1})
	builds(t, s, a, b, 3, hunk(2, 7, 2, 7, " 2\n", " 3\n", " 4\n", "-5\n", "+x\n", " 6\n", " 7\n", " 8\n"))
	builds(t, s, a, b, 0, hunk(5, 1, 5, 1, "-5\n", "+x\n"))
	builds(t, script([4]int{0, 0, 0, 2}), nil, counted(2), 3, hunk(0, 0, 1, 2, "+1\n", "+2\n"))
	two := oneEach(4, 11)
	c, d := counted(20), changedAt(20, 4, 11)
	builds(t, two, c, d, 3, hunk(2, 14, 2, 14, " 2\n", " 3\n", " 4\n", "-5\n", "+x 4\n", " 6\n", " 7\n", " 8\n", " 9\n", " 10\n", " 11\n", "-12\n", "+x 11\n", " 13\n", " 14\n", " 15\n"))
	builds(t, two, c, d, 2,
		hunk(3, 5, 3, 5, " 3\n", " 4\n", "-5\n", "+x 4\n", " 6\n", " 7\n"),
		hunk(10, 5, 10, 5, " 10\n", " 11\n", "-12\n", "+x 11\n", " 13\n", " 14\n"))
}

// H2: at the beginning and the end of texts, and of empty ones.
func TestBuildAtEdges(t *testing.T) {
	a := counted(3)
	builds(t, nil, nil, nil, 0)
	builds(t, nil, nil, nil, api.MaxNumber)
	builds(t, nil, a, a, 3)
	builds(t, nil, a, []string{"other\n", "lines\n", "too\n"}, 3)
	builds(t, script([4]int{0, 3, 0, 0}), a, nil, 3, hunk(1, 3, 0, 0, "-1\n", "-2\n", "-3\n"))
	builds(t, script([4]int{0, 0, 0, 3}), nil, a, 0, hunk(0, 0, 1, 3, "+1\n", "+2\n", "+3\n"))
	// the first line goes, comes
	builds(t, script([4]int{0, 1, 0, 0}), a, a[1:], 0, hunk(1, 1, 0, 0, "-1\n"))
	builds(t, script([4]int{0, 1, 0, 0}), a, a[1:], 1, hunk(1, 2, 1, 1, "-1\n", " 2\n"))
	builds(t, script([4]int{0, 0, 0, 1}), a[1:], a, 0, hunk(0, 0, 1, 1, "+1\n"))
	builds(t, script([4]int{0, 0, 0, 1}), a[1:], a, 1, hunk(1, 1, 1, 2, "+1\n", " 2\n"))
	// the last one
	builds(t, script([4]int{2, 1, 2, 0}), a, a[:2], 0, hunk(3, 1, 2, 0, "-3\n"))
	builds(t, script([4]int{2, 1, 2, 0}), a, a[:2], 1, hunk(2, 2, 2, 1, " 2\n", "-3\n"))
	builds(t, script([4]int{2, 0, 2, 1}), a[:2], a, 0, hunk(2, 0, 3, 1, "+3\n"))
	builds(t, script([4]int{2, 0, 2, 1}), a[:2], a, 1, hunk(2, 1, 2, 2, " 2\n", "+3\n"))
	// more context than there are lines
	for _, context := range []int{1, 2, 3, 100, api.MaxNumber} {
		builds(t, oneEach(1), a, changedAt(3, 1), context, hunk(1, 3, 1, 3, " 1\n", "-2\n", "+x 1\n", " 3\n"))
	}
	// the second hunk's places, behind lines that came and went
	b := []string{"y\n", "1\n", "2\n", "3\n", "4\n", "6\n"}
	builds(t, script([4]int{0, 0, 0, 1}, [4]int{4, 1, 5, 0}), counted(6), b, 0, hunk(0, 0, 1, 1, "+y\n"), hunk(5, 1, 5, 0, "-5\n"))
	builds(t, script([4]int{0, 0, 0, 1}, [4]int{4, 1, 5, 0}), counted(6), b, 1, hunk(1, 1, 1, 2, "+y\n", " 1\n"), hunk(4, 3, 5, 2, " 4\n", "-5\n", " 6\n"))
}

// H2: changes with 2 * context lines between them belong together, those with one more do not.
func TestBuildGroups(t *testing.T) {
	for context := range 6 {
		for gap := 1; gap <= 12; gap++ {
			second := 8 + gap
			a, b := counted(30), changedAt(30, 7, second)
			l, err := Build(oneEach(7, second), a, b, context)
			want := 2
			if gap <= 2*context {
				want = 1
			}
			if err != nil || len(l) != want {
				t.Errorf("context %d, %d lines between: %d hunks, %v", context, gap, len(l), err)
			}
			areHunks(t, "by the words", l, err, cutRows(allRows(oneEach(7, second), a, b), 0, 0, context))
		}
	}
	// a third one belongs to the second one's group, though it is far from the first
	a, b := counted(30), changedAt(30, 5, 9, 13, 20)
	l, err := Build(oneEach(5, 9, 13, 20), a, b, 2)
	if err != nil || len(l) != 2 || l[0].A != 4 || l[0].N != 13 || l[1].A != 19 || l[1].N != 5 {
		t.Error(shown(l...), err)
	}
}

// H2: changes that touch are taken as one: old lines ahead of new ones.
func TestBuildOfTouching(t *testing.T) {
	a, b := counted(4), []string{"1\n", "x\n", "y\n", "4\n"}
	want := hunk(2, 2, 2, 2, "-2\n", "-3\n", "+x\n", "+y\n")
	builds(t, oneEach(1, 2), a, b, 0, want)
	builds(t, script([4]int{1, 0, 1, 2}, [4]int{1, 2, 3, 0}), a, b, 0, want)
	builds(t, script([4]int{1, 1, 1, 0}, [4]int{2, 0, 1, 2}, [4]int{2, 1, 3, 0}), a, b, 0, want)
}

// H2, H6: lines that stay are told with the text of a.
func TestBuildTellsOldTexts(t *testing.T) {
	a, b := []string{"A\n", "old\n", "C"}, []string{"a\n", "new\n", "c"}
	builds(t, oneEach(1), a, b, 1, hunk(1, 3, 1, 3, " A\n", "-old\n", "+new\n", " C"))
}

// H2: last lines that are not whole.
func TestBuildOfLinesThatAreNotWhole(t *testing.T) {
	whole, cut := []string{"1\n", "2\n"}, []string{"1\n", "2"}
	last := oneEach(1)
	builds(t, last, whole, cut, 1, hunk(1, 2, 1, 2, " 1\n", "-2\n", "+2"))
	builds(t, last, cut, whole, 1, hunk(1, 2, 1, 2, " 1\n", "-2", "+2\n"))
	builds(t, last, cut, cut, 1, hunk(1, 2, 1, 2, " 1\n", "-2", "+2"))
	builds(t, oneEach(0), cut, cut, 1, hunk(1, 2, 1, 2, "-1\n", "+1\n", " 2"))
	builds(t, nil, cut, cut, 1)
	builds(t, script([4]int{1, 1, 1, 2}), cut, []string{"1\n", "2\n", "3"}, 0, hunk(2, 1, 2, 2, "-2", "+2\n", "+3"))
	builds(t, script([4]int{0, 0, 0, 1}), nil, []string{"1"}, 3, hunk(0, 0, 1, 1, "+1"))
	// a line that stays, whole here and not there
	for _, c := range []struct {
		s    []api.Change
		a, b []string
	}{
		{nil, whole, cut},
		{nil, cut, whole},
		{oneEach(0), whole, cut},
		{oneEach(0), cut, whole},
		{script([4]int{0, 1, 0, 0}), cut, []string{"2\n"}},
		{script([4]int{0, 0, 0, 1}), []string{"2\n"}, cut},
		{nil, []string{"x"}, []string{"x\n"}},
		// the last line of one text stays, as one that is not the last of the other
		{script([4]int{2, 0, 2, 1}), cut, []string{"1\n", "2\n", "3\n"}},
		{script([4]int{2, 0, 2, 1}), cut, []string{"1\n", "2\n", "3"}},
		{script([4]int{0, 1, 0, 0}, [4]int{2, 0, 1, 1}), cut, []string{"2\n", "3\n"}},
		{script([4]int{2, 1, 2, 0}), []string{"1\n", "2\n", "3\n"}, cut},
		{script([4]int{2, 1, 2, 0}), []string{"1\n", "2\n", "3"}, cut},
		// and the changes behind it touch
		{script([4]int{1, 0, 1, 1}, [4]int{1, 0, 2, 1}), []string{"1"}, []string{"1\n", "2\n", "3"}},
	} {
		for _, context := range []int{0, 1, 3, api.MaxNumber} {
			l, err := Build(c.s, c.a, c.b, context)
			failed(t, fmt.Sprint(c), l, err, api.ErrApply)
		}
	}
}

// H2: each of the errors, and which of them comes first.
func TestBuildErrors(t *testing.T) {
	good, cut, bad := counted(2), []string{"1\n", "2"}, []string{"1", "2\n"}
	s, none := oneEach(1), script([4]int{0, 0, 0, 0})
	long := make([]string, api.MaxBytes+1)
	for i := range long {
		long[i] = "\n"
	}
	for _, c := range []struct {
		name    string
		s       []api.Change
		a, b    []string
		context int
		want    error
	}{
		{"a context below 0", s, good, good, -1, api.ErrArg},
		{"a context beyond the limit", s, good, good, api.MaxNumber + 1, api.ErrArg},
		{"the least context", s, good, good, math.MinInt, api.ErrArg},
		{"the greatest context", s, good, good, math.MaxInt, api.ErrArg},
		{"a context, and all else", none, bad, cut, -1, api.ErrArg},
		{"old lines", s, bad, good, 3, api.ErrForm},
		{"new lines", s, good, bad, 3, api.ErrForm},
		{"an empty line", s, []string{"", "2\n"}, good, 3, api.ErrForm},
		{"an empty last line", s, good, []string{"1\n", ""}, 3, api.ErrForm},
		{"a line that is two", s, good, []string{"1\n", "2\n3"}, 3, api.ErrForm},
		{"lines, and no script", none, bad, good, 3, api.ErrForm},
		{"lines, and no script, of new ones", none, good, bad, 3, api.ErrForm},
		{"lines, and too many", none, append(long[:api.MaxBytes:api.MaxBytes], ""), good, 3, api.ErrForm},
		{"too many old lines", s, long, good, 3, api.ErrArg},
		{"too many new lines", s, good, long, 3, api.ErrArg},
		{"too many lines, and no script", none, long, long, 3, api.ErrArg},
		{"a change of nothing", none, good, good, 3, api.ErrEdit},
		{"no script", script([4]int{1, 1, 1, 0}), good, good, 3, api.ErrEdit},
		{"nothing, between unlike lengths", nil, good, nil, 3, api.ErrEdit},
		{"beyond the end", oneEach(2), good, good, 3, api.ErrEdit},
		{"below 0", oneEach(-1), good, good, 3, api.ErrEdit},
		{"the greatest numbers", script([4]int{math.MaxInt, 1, math.MaxInt, 1}), good, good, 3, api.ErrEdit},
		{"no script, and a line that is not whole", script([4]int{0, 1, 0, 0}), good, cut, 3, api.ErrEdit},
		{"a line that is not whole", oneEach(0), good, cut, 3, api.ErrApply},
	} {
		l, err := Build(c.s, c.a, c.b, c.context)
		failed(t, c.name, l, err, c.want)
	}
}

// between are the texts of a script from n lines to m: those that stay are the same, or unlike if so asked; the last ones are whole, or are not.
func between(s []api.Change, n, m int, unlike, oldCut, freshCut bool) ([]string, []string) {
	a, b := make([]string, n), make([]string, m)
	for i := range a {
		a[i] = fmt.Sprintln("a", i)
	}
	for i := range b {
		b[i] = fmt.Sprintln("b", i)
	}
	at, fresh := 0, 0
	for _, c := range append(slices.Clone(s), api.Change{A: n, B: m}) {
		if !unlike {
			copy(b[fresh:c.B], a[at:c.A])
		}
		at, fresh = c.A+c.N, c.B+c.M
	}
	if oldCut && n > 0 {
		a[n-1] = strings.TrimSuffix(a[n-1], "\n")
	}
	if freshCut && m > 0 {
		b[m-1] = strings.TrimSuffix(b[m-1], "\n")
	}
	return a, b
}

// tells fails where what H2 and H6 say of a script's hunks does not hold.
func tells(t *testing.T, s []api.Change, a, b []string, context int) {
	t.Helper()
	if t.Failed() {
		t.FailNow()
	}
	l, err := Build(s, a, b, context)
	what := fmt.Sprintf("%v of %q and %q, %d", s, a, b, context)
	areHunks(t, what, l, err, cutRows(allRows(s, a, b), 0, 0, context))
	isErr(t, what, Order(l), nil)
	back, err := Script(l, len(a), len(b))
	if err != nil || !slices.Equal(back, plainNormal(s)) {
		t.Errorf("%s: the script %v, %v", what, back, err)
	}
	for i, h := range l {
		old, fresh := Sides(h)
		at, freshAt := places(h)
		if !slices.Equal(old, a[at:at+h.N]) {
			t.Errorf("%s: the old side %q", what, old)
		}
		if same := slices.Equal(fresh, b[freshAt:freshAt+h.M]); !same && sameStay(s, a, b) {
			t.Errorf("%s: the new side %q", what, fresh)
		}
		n, m := counts(h.Rows)
		if context == 0 && n+m != len(h.Rows) {
			t.Errorf("%s: rows of both in %s", what, shown(h))
		}
		if i > 0 && apart(l[i-1], h) <= 2*context {
			t.Errorf("%s: hunks too near to one another", what)
		}
	}
	if context >= len(a) && len(l) > 1 {
		t.Errorf("%s: %d hunks", what, len(l))
	}
}

// sameStay tells whether the lines that stay are the same in both texts.
func sameStay(s []api.Change, a, b []string) bool {
	at, fresh := 0, 0
	for _, c := range append(slices.Clone(s), api.Change{A: len(a), B: len(b)}) {
		if !slices.Equal(a[at:c.A], b[fresh:c.B]) {
			return false
		}
		at, fresh = c.A+c.N, c.B+c.M
	}
	return true
}

// endsStay tells whether each line that stays is whole in both texts or in neither.
func endsStay(s []api.Change, a, b []string) bool {
	at, fresh := 0, 0
	for _, c := range append(slices.Clone(s), api.Change{A: len(a), B: len(b)}) {
		for ; at < c.A; at, fresh = at+1, fresh+1 {
			if strings.HasSuffix(a[at], "\n") != strings.HasSuffix(b[fresh], "\n") {
				return false
			}
		}
		at, fresh = c.A+c.N, c.B+c.M
	}
	return true
}

// apart is how many lines lie between the last change of a hunk and the first one of the next.
func apart(h, next api.Hunk) int {
	isOne := func(r api.Row) bool { return r.Kind != api.RowBoth }
	last, _ := places(h)
	at, _ := places(next)
	gap := at - last - h.N + slices.IndexFunc(next.Rows, isOne)
	for i := len(h.Rows) - 1; !isOne(h.Rows[i]); i-- {
		gap++
	}
	return gap
}

// H2, H6: all small scripts, with texts of all kinds and every context.
func TestBuildOfAllSmall(t *testing.T) {
	contexts := []int{0, 1, 2, 3, 4, 5, api.MaxNumber}
	for n := range 5 {
		for m := range 5 {
			for _, s := range scripts(n, m) {
				for kind := range 8 {
					a, b := between(s, n, m, kind&1 > 0, kind&2 > 0, kind&4 > 0)
					if !endsStay(s, a, b) {
						l, err := Build(s, a, b, kind)
						failed(t, fmt.Sprint(s, a, b), l, err, api.ErrApply)
						continue
					}
					for _, context := range contexts {
						tells(t, s, a, b, context)
					}
				}
			}
		}
	}
}

// H2, H6: longer texts, changed here and there.
func TestBuildOfLonger(t *testing.T) {
	next := steps(7)
	for range 60 {
		s, n, m := next.script(40)
		for kind := range 4 {
			a, b := between(s, n, m, kind&1 > 0, kind&2 > 0, kind&2 > 0)
			if !endsStay(s, a, b) {
				continue
			}
			for _, context := range []int{0, 1, 2, 3, 7, 100} {
				tells(t, s, a, b, context)
			}
		}
	}
}

// steps is a row of numbers that looks like chance and is the same each time.
type steps uint64

// below is the next number, from 0 on, below a limit.
func (s *steps) below(limit int) int {
	*s = *s*6364136223846793005 + 1442695040888963407
	return int(uint64(*s)>>33) % limit
}

// script is an edit script of some changes far and near, with the numbers of lines that it is between.
func (s *steps) script(lines int) ([]api.Change, int, int) {
	var list []api.Change
	a, b := 0, 0
	for a < lines {
		stay := s.below(9)
		c := api.Change{A: a + stay, N: s.below(3), B: b + stay, M: s.below(3)}
		if c.N+c.M > 0 {
			list = append(list, c)
		}
		a, b = c.A+c.N, c.B+c.M
	}
	stay := s.below(9)
	return list, a + stay, b + stay
}
