package hunks

import (
	"fmt"
	"math"
	"selvage/api"
	"slices"
	"strings"
	"testing"
)

// narrows fails where a hunk with less context is not what is wanted.
func narrows(t *testing.T, h api.Hunk, context int, want ...api.Hunk) {
	t.Helper()
	got, err := Narrow(h, context)
	areHunks(t, fmt.Sprint(shown(h), " to ", context), got, err, want)
}

// H8: less context at both ends, and hunks that fall apart.
func TestNarrow(t *testing.T) {
	h := headed(hunk(4, 6, 6, 6, " a\n", " b\n", "-c\n", "+d\n", " e\n", " f\n", " g"), "f()")
	for _, context := range []int{3, 4, 100, api.MaxNumber} {
		narrows(t, h, context, h)
	}
	narrows(t, h, 2, headed(hunk(4, 5, 6, 5, " a\n", " b\n", "-c\n", "+d\n", " e\n", " f\n"), "f()"))
	narrows(t, h, 1, headed(hunk(5, 3, 7, 3, " b\n", "-c\n", "+d\n", " e\n"), "f()"))
	narrows(t, h, 0, headed(hunk(6, 1, 8, 1, "-c\n", "+d\n"), "f()"))
	// no lines are left on one side
	narrows(t, hunk(3, 2, 5, 1, " a\n", "-b\n"), 0, hunk(4, 1, 5, 0, "-b\n"))
	narrows(t, hunk(3, 1, 5, 2, " a\n", "+b\n"), 0, hunk(3, 0, 6, 1, "+b\n"))
	narrows(t, hunk(1, 1, 1, 2, "+a\n", " b\n"), 0, hunk(0, 0, 1, 1, "+a\n"))
	narrows(t, hunk(0, 0, 1, 1, "+a\n"), 0, hunk(0, 0, 1, 1, "+a\n"))
	// just 2 * context rows between two changes, and one more
	two := headed(hunk(1, 4, 1, 4, "-a\n", "+b\n", " c\n", " d\n", "-e\n", "+f\n"), "g")
	narrows(t, two, 1, two)
	narrows(t, two, 0, headed(hunk(1, 1, 1, 1, "-a\n", "+b\n"), "g"), hunk(4, 1, 4, 1, "-e\n", "+f\n"))
	three := headed(hunk(1, 4, 1, 5, "+a\n", " b\n", " c\n", " d\n", "-e\n", "+f\n"), "g")
	narrows(t, three, 2, three)
	narrows(t, three, 1, headed(hunk(1, 1, 1, 2, "+a\n", " b\n"), "g"), hunk(3, 2, 4, 2, " d\n", "-e\n", "+f\n"))
	narrows(t, three, 0, headed(hunk(0, 0, 1, 1, "+a\n"), "g"), hunk(4, 1, 5, 1, "-e\n", "+f\n"))
	// rows of a run keep their order
	mixed := hunk(1, 3, 1, 3, " a\n", "+b\n", "-c\n", "+d\n", "-e\n")
	narrows(t, mixed, 1, mixed)
	narrows(t, mixed, 0, hunk(2, 2, 2, 2, "+b\n", "-c\n", "+d\n", "-e\n"))
	// three pieces, lines that are not whole at the end
	narrows(t, hunk(1, 6, 1, 4, "-a\n", " b\n", "-c\n", " d\n", " e\n", "-f", "+g"), 0,
		hunk(1, 1, 0, 0, "-a\n"), hunk(3, 1, 1, 0, "-c\n"), hunk(6, 1, 4, 1, "-f", "+g"))
	// as far on as may be
	const most = api.MaxNumber
	narrows(t, hunk(most-2, 2, most-2, 1, " a\n", "-b\n"), 0, hunk(most-1, 1, most-2, 0, "-b\n"))
	narrows(t, hunk(most-1, 1, most-2, 2, " a\n", "+b\n"), 0, hunk(most-1, 0, most-1, 1, "+b\n"))
	narrows(t, hunk(most, 0, 1, 1, "+b\n"), 0, hunk(most, 0, 1, 1, "+b\n"))
}

// H8: each of the errors, and which of them comes first.
func TestNarrowErrors(t *testing.T) {
	good := hunk(1, 2, 1, 1, " a\n", "-b\n")
	for _, c := range []struct {
		h       api.Hunk
		context int
		want    error
	}{
		{good, -1, api.ErrArg},
		{good, api.MaxNumber + 1, api.ErrArg},
		{good, math.MinInt, api.ErrArg},
		{good, math.MaxInt, api.ErrArg},
		{api.Hunk{}, -1, api.ErrArg},
		{api.Hunk{}, api.MaxNumber + 1, api.ErrArg},
		{api.Hunk{}, 0, api.ErrHunk},
		{hunk(1, 1, 1, 1, " a\n"), 3, api.ErrHunk},
		{hunk(1, 1, 1, 1, " a\n", "-b\n"), 3, api.ErrHunk},
		{headed(good, "\n"), 0, api.ErrHunk},
		{hunk(1, 1, 0, 0, "-a\n", "?b\n"), api.MaxNumber, api.ErrHunk},
	} {
		l, err := Narrow(c.h, c.context)
		failed(t, fmt.Sprint(shown(c.h), " to ", c.context), l, err, c.want)
	}
}

// H8, H9: all small hunks: they are cut row by row, make the same changes, and to what they have they are themselves.
func TestNarrowOfAllSmall(t *testing.T) {
	for _, rows := range someRows(7, []int{1, 2, 3}, []string{"x\n"}) {
		for i := range rows {
			rows[i].Text = fmt.Sprintln(i)
		}
		h := headed(plainHunk(rows, 3, 3), "f")
		if !mayBe(h) {
			continue
		}
		was, err := Script([]api.Hunk{h}, 100, 100-h.N+h.M)
		isErr(t, shown(h), err, nil)
		for context := range 5 {
			want := cutRows(rows, 3, 3, context)
			want[0].Head = "f"
			narrows(t, h, context, want...)
			if has(rows) <= context {
				narrows(t, h, context, h)
			}
			got, err := Narrow(h, context)
			isErr(t, shown(h), err, nil)
			isErr(t, shown(got...), Order(got), nil)
			if s, err := Script(got, 100, 100-h.N+h.M); err != nil || !slices.Equal(s, was) {
				t.Fatalf("%s to %d: the changes %v, %v, not %v", shown(h), context, s, err, was)
			}
		}
	}
}

// has is how much context rows have: at the ends, and, by half, between two changes.
func has(rows []api.Row) int {
	most, run, first := 0, 0, true
	for _, r := range rows {
		if r.Kind == api.RowBoth {
			run++
			continue
		}
		if first {
			most = run
		} else {
			most = max(most, (run+1)/2)
		}
		run, first = 0, false
	}
	return max(most, run)
}

// H9: the hunks of a script with one context, narrowed to a lesser one, are those with that.
func TestNarrowOfBuilt(t *testing.T) {
	check := func(s []api.Change, n, m int, unlike bool) {
		a, b := between(s, n, m, unlike, false, false)
		for wide := range 6 {
			l, err := Build(s, a, b, wide)
			isErr(t, fmt.Sprint(s), err, nil)
			for context := range wide + 1 {
				var cut []api.Hunk
				for _, h := range l {
					some, err := Narrow(h, context)
					isErr(t, shown(h), err, nil)
					cut = append(cut, some...)
				}
				want, err := Build(s, a, b, context)
				areHunks(t, fmt.Sprint(s, wide, context), cut, err, want)
			}
		}
	}
	for n := range 5 {
		for m := range 5 {
			for _, s := range scripts(n, m) {
				check(s, n, m, false)
			}
		}
	}
	next := steps(21)
	for i := range 60 {
		s, n, m := next.script(50)
		check(s, n, m, i%2 > 0)
	}
}

// widens fails where a hunk with more context is not what is wanted.
func widens(t *testing.T, h api.Hunk, a []string, context int, want api.Hunk) {
	t.Helper()
	got, err := Wide(h, a, context)
	isHunk(t, fmt.Sprintf("%s in %q to %d", shown(h), a, context), got, err, want)
}

// H10: rows that are wanting, as far as the text has them.
func TestWide(t *testing.T) {
	a := counted(9)
	h := headed(hunk(5, 1, 7, 1, "-5\n", "+x\n"), "f()")
	widens(t, h, a, 0, h)
	widens(t, h, a, 1, headed(hunk(4, 3, 6, 3, " 4\n", "-5\n", "+x\n", " 6\n"), "f()"))
	widens(t, h, a, 3, headed(hunk(2, 7, 4, 7, " 2\n", " 3\n", " 4\n", "-5\n", "+x\n", " 6\n", " 7\n", " 8\n"), "f()"))
	for _, context := range []int{4, 5, 100, api.MaxNumber} {
		widens(t, h, a, context, headed(hunk(1, 9, 3, 9, " 1\n", " 2\n", " 3\n", " 4\n", "-5\n", "+x\n", " 6\n", " 7\n", " 8\n", " 9\n"), "f()"))
	}
	// what it has counts, and is never less
	part := hunk(4, 4, 4, 4, " 4\n", "-5\n", "+x\n", " 6\n", " 7\n")
	widens(t, part, a, 0, part)
	widens(t, part, a, 1, part)
	widens(t, part, a, 2, hunk(3, 5, 3, 5, " 3\n", " 4\n", "-5\n", "+x\n", " 6\n", " 7\n"))
	widens(t, part, a, 3, hunk(2, 7, 2, 7, " 2\n", " 3\n", " 4\n", "-5\n", "+x\n", " 6\n", " 7\n", " 8\n"))
	// rows between two changes do not count
	two := hunk(3, 4, 3, 2, "-3\n", " 4\n", " 5\n", "-6\n")
	widens(t, two, a, 1, hunk(2, 6, 2, 4, " 2\n", "-3\n", " 4\n", " 5\n", "-6\n", " 7\n"))
	// sides without lines get some
	widens(t, hunk(5, 0, 6, 1, "+x\n"), a, 1, hunk(5, 2, 5, 3, " 5\n", "+x\n", " 6\n"))
	widens(t, hunk(5, 1, 4, 0, "-5\n"), a, 1, hunk(4, 3, 4, 2, " 4\n", "-5\n", " 6\n"))
	widens(t, hunk(0, 0, 1, 1, "+x\n"), a, 1, hunk(1, 1, 1, 2, "+x\n", " 1\n"))
	widens(t, hunk(9, 0, 10, 1, "+x\n"), a, 1, hunk(9, 1, 9, 2, " 9\n", "+x\n"))
	widens(t, hunk(1, 1, 0, 0, "-1\n"), a, 1, hunk(1, 2, 1, 1, "-1\n", " 2\n"))
	widens(t, hunk(9, 1, 8, 0, "-9\n"), a, 1, hunk(8, 2, 8, 1, " 8\n", "-9\n"))
	widens(t, hunk(0, 0, 1, 1, "+x\n"), nil, 3, hunk(0, 0, 1, 1, "+x\n"))
	// a row of both that has no more, on one end
	widens(t, hunk(1, 2, 1, 1, " 1\n", "-2\n"), a, 2, hunk(1, 4, 1, 3, " 1\n", "-2\n", " 3\n", " 4\n"))
	// a last line that is not whole
	cut := []string{"1\n", "2\n", "3"}
	widens(t, hunk(2, 1, 1, 0, "-2\n"), cut, 1, hunk(1, 3, 1, 2, " 1\n", "-2\n", " 3"))
	widens(t, hunk(3, 1, 3, 1, "-3", "+x\n"), cut, 1, hunk(2, 2, 2, 2, " 2\n", "-3", "+x\n"))
	widens(t, hunk(3, 1, 3, 1, "-3", "+x"), cut, 1, hunk(2, 2, 2, 2, " 2\n", "-3", "+x"))
	widens(t, hunk(2, 2, 2, 1, "-2\n", " 3"), cut, 1, hunk(1, 3, 1, 2, " 1\n", "-2\n", " 3"))
	widens(t, hunk(9, 1, 9, 1, "-9\n", "+x"), a, 1, hunk(8, 2, 8, 2, " 8\n", "-9\n", "+x"))
	widens(t, hunk(9, 0, 10, 1, "+x"), a, 1, hunk(9, 1, 9, 2, " 9\n", "+x"))
	widens(t, hunk(3, 0, 4, 1, "+x\n"), cut, 0, hunk(3, 0, 4, 1, "+x\n"))
}

// H10: each of the errors, and which of them comes first.
func TestWideErrors(t *testing.T) {
	const most = api.MaxNumber
	a, cut, bad := counted(9), []string{"1\n", "2\n", "3"}, []string{"1", "2\n"}
	good := hunk(5, 1, 5, 1, "-5\n", "+x\n")
	for _, c := range []struct {
		name    string
		h       api.Hunk
		a       []string
		context int
		want    error
	}{
		{"a context below 0", good, a, -1, api.ErrArg},
		{"a context beyond the limit", good, a, most + 1, api.ErrArg},
		{"the least context", good, a, math.MinInt, api.ErrArg},
		{"the greatest context", good, a, math.MaxInt, api.ErrArg},
		{"a context, and all else", api.Hunk{}, bad, -1, api.ErrArg},
		{"no hunk", api.Hunk{}, a, 3, api.ErrHunk},
		{"a hunk that may not be", hunk(5, 1, 5, 1, " 5\n"), a, 3, api.ErrHunk},
		{"no hunk, and no lines", api.Hunk{}, bad, 3, api.ErrHunk},
		{"no lines", good, bad, 3, api.ErrForm},
		{"no lines, an empty one", good, append(counted(9), ""), 0, api.ErrForm},
		{"no lines, and a hunk that is in them", hunk(2, 1, 2, 1, "-2\n", "+x\n"), bad, 0, api.ErrForm},
		{"no lines, and a hunk that is not", good, bad, 0, api.ErrForm},
		// old lines
		{"another line", hunk(5, 1, 5, 1, "-4\n", "+x\n"), a, 3, api.ErrApply},
		{"another line, and none is wanted", hunk(5, 1, 5, 1, "-4\n", "+x\n"), a, 0, api.ErrApply},
		{"another row of both", hunk(4, 2, 4, 2, " 5\n", "-5\n", "+x\n"), a, 0, api.ErrApply},
		{"another one, the last", hunk(4, 2, 4, 2, "-4\n", "+x\n", " x\n"), a, 0, api.ErrApply},
		{"a line that is whole in the text", hunk(9, 1, 9, 1, "-9", "+x\n"), a, 0, api.ErrApply},
		{"a line that is not whole in the text", hunk(3, 1, 3, 1, "-3\n", "+x\n"), cut, 0, api.ErrApply},
		{"one line beyond the end", hunk(10, 1, 10, 1, "-9\n", "+x\n"), a, 0, api.ErrApply},
		{"partly beyond the end", hunk(9, 2, 9, 1, "-9\n", " 10\n"), a, 0, api.ErrApply},
		{"far beyond the end", hunk(most-1, 1, most-1, 1, "-9\n", "+x\n"), a, 0, api.ErrApply},
		{"nothing, beyond the end", hunk(10, 0, 11, 1, "+x\n"), a, 0, api.ErrApply},
		{"nothing, beyond the end, with context", hunk(10, 0, 11, 1, "+x\n"), a, 3, api.ErrApply},
		{"nothing, far beyond the end", hunk(most, 0, 1, 1, "+x\n"), a, 3, api.ErrApply},
		{"something of an empty text", hunk(1, 1, 0, 0, "-1\n"), nil, 0, api.ErrApply},
		{"nothing behind the first line of an empty text", hunk(1, 0, 1, 1, "+1\n"), nil, 0, api.ErrApply},
		// a new line that is not whole, and the text goes on
		{"new not whole", hunk(5, 1, 5, 1, "-5\n", "+x"), a, 3, api.ErrApply},
		{"new not whole, and none is wanted", hunk(5, 1, 5, 1, "-5\n", "+x"), a, 0, api.ErrApply},
		{"new not whole, ahead of an old one", hunk(5, 1, 5, 1, "+x", "-5\n"), a, 0, api.ErrApply},
		{"new not whole, without old ones", hunk(5, 0, 6, 1, "+x"), a, 0, api.ErrApply},
		{"new not whole, one line ahead of the end", hunk(8, 1, 8, 1, "-8\n", "+x"), a, 0, api.ErrApply},
		{"new not whole, at the beginning", hunk(0, 0, 1, 1, "+x"), a, 0, api.ErrApply},
		{"new not whole, and its place too near to the beginning", hunk(5, 1, 1, 1, "-5\n", "+x"), a, 3, api.ErrApply},
		// the new place
		{"one line too few ahead", hunk(5, 1, 3, 1, "-5\n", "+x\n"), a, 3, api.ErrHunk},
		{"just as many ahead", hunk(5, 1, 4, 1, "-5\n", "+x\n"), a, 3, nil},
		{"one line too few ahead, without new ones", hunk(5, 1, 2, 0, "-5\n"), a, 3, api.ErrHunk},
		{"just as many ahead, without new ones", hunk(5, 1, 3, 0, "-5\n"), a, 3, nil},
		{"as many as the text has", hunk(3, 1, 3, 1, "-3\n", "+x\n"), a, most, nil},
		{"one less than the text has", hunk(3, 1, 2, 1, "-3\n", "+x\n"), a, most, api.ErrHunk},
		{"some that it has itself", hunk(4, 2, 2, 2, " 4\n", "-5\n", "+x\n"), a, 2, nil},
		{"some that it has itself, and one too few", hunk(4, 2, 2, 2, " 4\n", "-5\n", "+x\n"), a, 3, api.ErrHunk},
		// the wider hunk
		{"a last line that is not whole ahead of new ones", hunk(3, 0, 4, 1, "+x\n"), cut, 1, api.ErrHunk},
		{"new lines at the limit", hunk(8, 1, most-1, 1, "-8\n", "+x\n"), a, 1, api.ErrHunk},
		{"new lines at the limit, none to come behind", hunk(9, 1, most-1, 1, "-9\n", "+x\n"), a, 1, nil},
		{"new lines one ahead of the limit", hunk(8, 1, most-2, 1, "-8\n", "+x\n"), a, 1, nil},
		{"nothing new at the limit", hunk(9, 1, most, 0, "-9\n"), a, 0, nil},
		{"nothing new at the limit, a line ahead", hunk(9, 1, most, 0, "-9\n"), a, 1, api.ErrHunk},
		{"nothing new one ahead of the limit, a line ahead", hunk(9, 1, most-1, 0, "-9\n"), a, 1, nil},
		{"nothing new at the limit, a line behind", hunk(1, 1, most, 0, "-1\n"), a, 1, api.ErrHunk},
	} {
		h, err := Wide(c.h, c.a, c.context)
		isErr(t, c.name, err, c.want)
		if err != nil && !sameHunk(h, api.Hunk{}) {
			t.Errorf("%s: %s beside %v", c.name, shown(h), err)
		}
		plain, want := plainWide(c.h, c.a, c.context)
		if want != c.want {
			t.Errorf("%s is told otherwise by the words: %v", c.name, want)
		}
		isHunk(t, c.name, h, nil, plain)
	}
}

// areLines tells whether texts are a text's lines.
func areLines(a []string) bool {
	for i, line := range a {
		if !isLine(line) || i+1 < len(a) && !strings.HasSuffix(line, "\n") {
			return false
		}
	}
	return true
}

// standsPlainly tells by H10's words whether a hunk stands in a text.
func standsPlainly(h api.Hunk, a []string) bool {
	at, _ := places(h)
	alone := false // the last line of the new side is of the new side alone, and not whole
	for _, r := range h.Rows {
		if r.Kind != api.RowOld {
			alone = r.Kind == api.RowNew && !strings.HasSuffix(r.Text, "\n")
		}
		if r.Kind == api.RowNew {
			continue
		}
		if at >= len(a) || a[at] != r.Text {
			return false
		}
		at++
	}
	return at <= len(a) && !(alone && at < len(a))
}

// plainWide is Wide as H10 says it, row by row.
func plainWide(h api.Hunk, a []string, context int) (api.Hunk, error) {
	switch {
	case context < 0 || context > api.MaxNumber:
		return api.Hunk{}, api.ErrArg
	case !mayBe(h):
		return api.Hunk{}, api.ErrHunk
	case !areLines(a):
		return api.Hunk{}, api.ErrForm
	case !standsPlainly(h, a):
		return api.Hunk{}, api.ErrApply
	}
	rows := slices.Clone(h.Rows)
	old, fresh := places(h)
	end := old + h.N
	isOne := func(r api.Row) bool { return r.Kind != api.RowBoth }
	for old > 0 && slices.IndexFunc(rows, isOne) < context {
		old, fresh = old-1, fresh-1
		rows = append([]api.Row{{Kind: api.RowBoth, Text: a[old]}}, rows...)
	}
	if fresh < 0 {
		return api.Hunk{}, api.ErrHunk
	}
	behind := func() int {
		turned := slices.Clone(rows)
		slices.Reverse(turned)
		return slices.IndexFunc(turned, isOne)
	}
	for end < len(a) && behind() < context {
		rows = append(rows, api.Row{Kind: api.RowBoth, Text: a[end]})
		end++
	}
	wide := headed(plainHunk(rows, old, fresh), h.Head)
	if !mayBe(wide) {
		return api.Hunk{}, api.ErrHunk
	}
	return wide, nil
}

// H10: all small hunks, in small texts, where they stand and where they do not.
func TestWideOfAllSmall(t *testing.T) {
	texts := [][]string{nil, {"1\n"}, {"1"}, {"1\n", "2\n"}, {"1\n", "2"}, {"1\n", "2\n", "3\n"}, {"1\n", "2\n", "3"}, {"1\n", "", "3"}}
	seen := map[error]int{}
	check := func(h api.Hunk, a []string) {
		for context := range 5 {
			got, err := Wide(h, a, context)
			want, fault := plainWide(h, a, context)
			seen[fault]++
			if err != fault || !sameHunk(got, want) {
				t.Fatalf("%s in %q to %d: %s, %v, not %s, %v", shown(h), a, context, shown(got), err, shown(want), fault)
			}
		}
	}
	for _, rows := range someRows(4, []int{1, 2, 3}, []string{"x\n"}) {
		for code := range 4 * 5 * 4 {
			old, fresh, how := code%4, code/4%5, code/20
			for _, a := range texts {
				h := headed(fromText(rows, a, old, fresh, how), "f")
				check(h, a)
			}
		}
	}
	for _, fault := range []error{nil, api.ErrHunk, api.ErrForm, api.ErrApply} {
		if seen[fault] < 1000 {
			t.Errorf("%v was met %d times", fault, seen[fault])
		}
	}
}

// fromText is the hunk of rows of some kinds whose old lines are those of a text at a place: how is 1 if the last new line is not whole, 2 if the last old one is another, 3 if both.
func fromText(kinds []api.Row, a []string, old, fresh, how int) api.Hunk {
	rows := slices.Clone(kinds)
	at, last, lastNew := old, -1, -1
	for i, r := range rows {
		if r.Kind == api.RowNew {
			lastNew = i
			continue
		}
		if at < len(a) {
			rows[i].Text = a[at]
		}
		at, last = at+1, i
	}
	if how&1 > 0 && lastNew >= 0 {
		rows[lastNew].Text = "x"
	}
	if how&2 > 0 && last >= 0 {
		rows[last].Text = "y\n"
	}
	return plainHunk(rows, old, fresh)
}

// H11: of a hunk with no context, Wide is what Build makes, if its neighbours do not come into it; and Narrow of Wide is the hunk.
func TestWideOfBuilt(t *testing.T) {
	met := 0
	check := func(s []api.Change, n, m int, kind int) {
		a, b := between(s, n, m, kind&1 > 0, kind&2 > 0, kind&2 > 0)
		if !endsStay(s, a, b) {
			return
		}
		for context := range 6 {
			l, err := Build(s, a, b, 0)
			isErr(t, fmt.Sprint(s), err, nil)
			want, err := Build(s, a, b, context)
			isErr(t, fmt.Sprint(s), err, nil)
			for i, h := range l {
				if i > 0 && apart(l[i-1], h) <= 2*context || i+1 < len(l) && apart(h, l[i+1]) <= 2*context {
					continue
				}
				met++
				at := slices.IndexFunc(want, func(w api.Hunk) bool {
					old, _ := places(w)
					first, _ := places(h)
					return old <= first && first+h.N <= old+w.N
				})
				widens(t, h, a, context, want[at])
			}
			for _, h := range want {
				for more := context; more < context+4; more++ {
					if wide, err := Wide(h, a, more); err == nil {
						narrows(t, wide, context, h)
					}
				}
			}
		}
	}
	for n := range 5 {
		for m := range 5 {
			for _, s := range scripts(n, m) {
				check(s, n, m, 0)
				check(s, n, m, 3)
			}
		}
	}
	next := steps(33)
	for i := range 60 {
		s, n, m := next.script(50)
		check(s, n, m, i)
	}
	if met < 1000 {
		t.Error("only", met, "hunks were met")
	}
}

// splits fails where a hunk as two is not what is wanted.
func splits(t *testing.T, h api.Hunk, at int, want ...api.Hunk) {
	t.Helper()
	got, err := Split(h, at)
	areHunks(t, fmt.Sprint(shown(h), " at ", at), got, err, want)
}

// H10: a hunk as two.
func TestSplit(t *testing.T) {
	const most = api.MaxNumber
	h := headed(hunk(4, 5, 7, 5, " a\n", "-b\n", "+c\n", " d\n", " e\n", "-f\n", "+g"), "f()")
	splits(t, h, 2, headed(hunk(4, 2, 7, 1, " a\n", "-b\n"), "f()"), hunk(6, 3, 8, 4, "+c\n", " d\n", " e\n", "-f\n", "+g"))
	splits(t, h, 3, headed(hunk(4, 2, 7, 2, " a\n", "-b\n", "+c\n"), "f()"), hunk(6, 3, 9, 3, " d\n", " e\n", "-f\n", "+g"))
	splits(t, h, 4, headed(hunk(4, 3, 7, 3, " a\n", "-b\n", "+c\n", " d\n"), "f()"), hunk(7, 2, 10, 2, " e\n", "-f\n", "+g"))
	splits(t, h, 6, headed(hunk(4, 5, 7, 4, " a\n", "-b\n", "+c\n", " d\n", " e\n", "-f\n"), "f()"), hunk(8, 0, 11, 1, "+g"))
	// sides without lines
	splits(t, hunk(1, 1, 1, 1, "-a\n", "+b\n"), 1, hunk(1, 1, 0, 0, "-a\n"), hunk(1, 0, 1, 1, "+b\n"))
	splits(t, hunk(1, 1, 1, 1, "+a\n", "-b\n"), 1, hunk(0, 0, 1, 1, "+a\n"), hunk(1, 1, 1, 0, "-b\n"))
	splits(t, hunk(0, 0, 1, 3, "+a\n", "+b\n", "+c"), 2, hunk(0, 0, 1, 2, "+a\n", "+b\n"), hunk(0, 0, 3, 1, "+c"))
	splits(t, hunk(4, 2, 3, 0, "-a\n", "-b"), 1, hunk(4, 1, 3, 0, "-a\n"), hunk(5, 1, 3, 0, "-b"))
	// lines that are not whole
	splits(t, hunk(1, 1, 1, 1, "-a", "+b"), 1, hunk(1, 1, 0, 0, "-a"), hunk(1, 0, 1, 1, "+b"))
	// the limit
	splits(t, hunk(most-2, 2, most, 0, "-a\n", "-b\n"), 1, hunk(most-2, 1, most, 0, "-a\n"), hunk(most-1, 1, most, 0, "-b\n"))
	splits(t, hunk(most-1, 1, most-1, 1, "-a\n", "+b\n"), 1, hunk(most-1, 1, most-2, 0, "-a\n"), hunk(most-1, 0, most-1, 1, "+b\n"))
}

// H10: each of Split's errors, and which of them comes first.
func TestSplitErrors(t *testing.T) {
	good := hunk(1, 3, 1, 2, " a\n", "-b\n", "+c\n", "-d\n")
	for _, c := range []struct {
		name string
		h    api.Hunk
		at   int
		want error
	}{
		{"at 0", good, 0, api.ErrArg},
		{"below 0", good, -1, api.ErrArg},
		{"at the number of rows", good, 4, api.ErrArg},
		{"beyond the rows", good, 5, api.ErrArg},
		{"the least", good, math.MinInt, api.ErrArg},
		{"the greatest", good, math.MaxInt, api.ErrArg},
		{"at the last row", good, 3, nil},
		{"no rows", api.Hunk{}, 0, api.ErrArg},
		{"no rows, at 1", api.Hunk{}, 1, api.ErrArg},
		{"one row", hunk(1, 1, 0, 0, "-a\n"), 1, api.ErrArg},
		{"one row that may not be", hunk(1, 1, 0, 0, "?a\n"), 1, api.ErrArg},
		{"a hunk that may not be, at 0", hunk(1, 1, 1, 1, "-a\n", "-b\n"), 0, api.ErrArg},
		{"a hunk that may not be, at its end", hunk(1, 1, 1, 1, "-a\n", "-b\n"), 2, api.ErrArg},
		{"a hunk that may not be", hunk(1, 1, 1, 1, "-a\n", "-b\n"), 1, api.ErrHunk},
		{"a hunk that may not be, of two that may", hunk(1, 2, 0, 0, "-a", "-b"), 1, api.ErrHunk},
		{"a heading that may not be", headed(good, "\n"), 2, api.ErrHunk},
		{"the first has no change", good, 1, api.ErrHunk},
		{"the second has no change", hunk(1, 3, 1, 2, " a\n", "-b\n", " c\n"), 2, api.ErrHunk},
	} {
		l, err := Split(c.h, c.at)
		isErr(t, c.name, err, c.want)
		if err != nil && len(l) > 0 {
			t.Errorf("%s: %s beside %v", c.name, shown(l...), err)
		}
	}
}

// H10, H11: all small hunks, at all rows: the two have its rows, and make its changes.
func TestSplitOfAllSmall(t *testing.T) {
	for _, rows := range someRows(6, []int{1, 2, 3}, []string{"x\n"}) {
		for i := range rows {
			rows[i].Text = fmt.Sprintln(i)
		}
		if len(rows) > 0 {
			// the last line is not whole
			rows[len(rows)-1].Text = "end"
		}
		h := headed(plainHunk(rows, 2, 2), "f")
		for at := -1; at <= len(rows)+1; at++ {
			got, err := Split(h, at)
			if at < 1 || at >= len(rows) {
				failed(t, shown(h), got, err, api.ErrArg)
				continue
			}
			n, m := counts(rows[:at])
			first, second := headed(plainHunk(rows[:at], 2, 2), "f"), plainHunk(rows[at:], 2+n, 2+m)
			if !mayBe(h) || !mayBe(first) || !mayBe(second) {
				failed(t, shown(h), got, err, api.ErrHunk)
				continue
			}
			areHunks(t, fmt.Sprint(shown(h), " at ", at), got, err, []api.Hunk{first, second})
			was, err := Script([]api.Hunk{h}, 50, 50-h.N+h.M)
			isErr(t, shown(h), err, nil)
			if s, err := Script(got, 50, 50-h.N+h.M); err != nil || !slices.Equal(s, was) {
				t.Errorf("%s at %d: the changes %v, %v, not %v", shown(h), at, s, err, was)
			}
		}
	}
}
