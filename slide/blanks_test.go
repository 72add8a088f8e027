package slide

import (
	"math"
	"selvage/api"
	"slices"
	"strings"
	"testing"
)

// plainBlank tells whether a line has none but the bytes 9, 11, 12, 13 and 32 ahead of its end.
func plainBlank(line string) bool {
	return strings.Trim(strings.TrimSuffix(line, "\n"), "\t\v\f\r ") == ""
}

// plainBlanks is Blanks as SL2 says it, line by line.
func plainBlanks(s []api.Change, a, b []string) []api.Change {
	var kept []api.Change
	for _, c := range plainNormal(s) {
		lines := slices.Concat(a[c.A:c.A+c.N], b[c.B:c.B+c.M])
		if slices.ContainsFunc(lines, func(line string) bool { return !plainBlank(line) }) {
			kept = append(kept, c)
		}
	}
	return kept
}

// blanks fails where Blanks of a script is not another one.
func blanks(t *testing.T, s []api.Change, a, b []string, want []api.Change) {
	t.Helper()
	got, err := Blanks(s, a, b)
	if err != nil || !slices.Equal(got, want) {
		t.Errorf("%v of %q, %q: %v, %v, not %v", s, a, b, got, err, want)
	}
}

// SL2: one line, on one side, on the other, and on both.
func TestOneLine(t *testing.T) {
	for _, line := range []string{"", "\n", " ", " \n", "\t\v\f\r \n", "\r\n", "   \t"} {
		blanks(t, script([4]int{0, 1, 0, 0}), []string{line}, nil, nil)
		blanks(t, script([4]int{0, 0, 0, 1}), nil, []string{line}, nil)
		blanks(t, script([4]int{0, 1, 0, 1}), []string{line}, []string{"\t\n"}, nil)
		blanks(t, script([4]int{0, 1, 0, 1}), []string{line}, []string{"x\n"}, script([4]int{0, 1, 0, 1}))
		blanks(t, script([4]int{0, 1, 0, 1}), []string{"x\n"}, []string{line}, script([4]int{0, 1, 0, 1}))
	}
	for _, line := range []string{"x", "x\n", " x \n", "\x00\n", "\x00", "\n\n", " \n ", "\x08\n", "\x0e\n", "\xa0\n", "\u00a0\n", "\u2003\n", "\x1c\n", "\x85"} {
		blanks(t, script([4]int{0, 1, 0, 0}), []string{line}, nil, script([4]int{0, 1, 0, 0}))
		blanks(t, script([4]int{0, 0, 0, 1}), nil, []string{line}, script([4]int{0, 0, 0, 1}))
		blanks(t, script([4]int{0, 1, 0, 1}), []string{line}, []string{"\n"}, script([4]int{0, 1, 0, 1}))
		blanks(t, script([4]int{0, 1, 0, 1}), []string{"\n"}, []string{line}, script([4]int{0, 1, 0, 1}))
	}
}

// SL2: which of several changes are left, and they stand where they stood.
func TestSeveralChanges(t *testing.T) {
	a := []string{" \n", "a\n", "b\n", "c\n", "\n", "\t\n", "d"}
	b := []string{"a\n", "c\n", "x\n", "\n", "d", " "}
	s := script([4]int{0, 1, 0, 0}, [4]int{2, 1, 1, 0}, [4]int{4, 1, 2, 2}, [4]int{5, 1, 4, 0}, [4]int{7, 0, 5, 1})
	// {4 1 2 2} and {5 1 4 0} touch
	blanks(t, s, a, b, script([4]int{2, 1, 1, 0}, [4]int{4, 2, 2, 2}))
	// one line that is not blank, the first, the second, the last of several
	for i := range 3 {
		old := []string{"\n", " \n", "\t\n"}
		old[i] = "x\n"
		blanks(t, script([4]int{0, 3, 0, 0}), old, nil, script([4]int{0, 3, 0, 0}))
		blanks(t, script([4]int{0, 0, 0, 3}), nil, old, script([4]int{0, 0, 0, 3}))
	}
	blanks(t, script([4]int{0, 3, 0, 2}), []string{"\n", " \n", "\t\n"}, []string{"\r\n", " "}, nil)
	blanks(t, nil, nil, nil, nil)
	blanks(t, []api.Change{}, []string{"a\n"}, []string{"b\n"}, nil)
}

// SL2: changes that touch are taken as one: blank lines that touch others are told with them.
func TestBlanksTouching(t *testing.T) {
	a, b := []string{"\n", "x\n", "\n"}, []string{" \n"}
	blanks(t, script([4]int{0, 1, 0, 0}, [4]int{1, 1, 0, 0}, [4]int{2, 1, 0, 1}), a, b, script([4]int{0, 3, 0, 1}))
	blanks(t, script([4]int{0, 1, 0, 0}, [4]int{1, 0, 0, 1}), []string{"\n"}, []string{"\t\n"}, nil)
}

// SL2: lines that stay need not be the same.
func TestBlanksNeedNotFit(t *testing.T) {
	blanks(t, script([4]int{1, 1, 1, 0}), []string{"a\n", "b\n", "c\n"}, []string{"d\n", "e\n"}, script([4]int{1, 1, 1, 0}))
	blanks(t, script([4]int{1, 1, 1, 0}), []string{"a\n", "\n", "c\n"}, []string{"d\n", "e\n"}, nil)
}

// SL2: changes do not slide, and those that are left are not put together.
func TestBlanksStay(t *testing.T) {
	a := []string{"x\n", "x\n", "\n", "x\n", "x\n"}
	s := script([4]int{0, 1, 0, 0}, [4]int{2, 1, 1, 0}, [4]int{3, 1, 1, 0})
	blanks(t, s, a, []string{"x\n", "x\n"}, script([4]int{0, 1, 0, 0}, [4]int{2, 2, 1, 0}))
}

// SL2, P1: what is no script.
func TestBlanksErrors(t *testing.T) {
	a, b := []string{"\n", "\n", "x\n"}, []string{"\n", "x\n"}
	long := make([]string, api.MaxBytes+1)
	for _, c := range []struct {
		name string
		s    []api.Change
		a, b []string
		want error
	}{
		{"nothing, between unlike lengths", nil, a, b, api.ErrEdit},
		{"a change of nothing", script([4]int{0, 0, 0, 0}), a, a, api.ErrEdit},
		{"below 0", script([4]int{-1, 1, -1, 0}), a, b, api.ErrEdit},
		{"beyond the end", script([4]int{3, 1, 3, 0}), a, b, api.ErrEdit},
		{"places that are not as far on", script([4]int{1, 1, 0, 0}), a, b, api.ErrEdit},
		{"not in order", script([4]int{2, 1, 2, 0}, [4]int{0, 1, 0, 0}), a, b[:1], api.ErrEdit},
		{"the greatest numbers", script([4]int{math.MaxInt, math.MaxInt, math.MaxInt, math.MaxInt}), a, b, api.ErrEdit},
		{"sums that wrap round", script([4]int{1, math.MaxInt, 1, math.MaxInt}), a, a, api.ErrEdit},
		{"too many lines", nil, long, long, api.ErrArg},
		{"too many lines, and no script", script([4]int{0, 0, 0, 0}), nil, long, api.ErrArg},
	} {
		got, err := Blanks(c.s, c.a, c.b)
		failed(t, c.name, got, err, c.want)
	}
}

// SL2: all small lists of lines, with all scripts between them.
func TestAllSmallBlanks(t *testing.T) {
	names := []string{" \n", "x\n", ""}
	named := func(row []int) []string {
		list := make([]string, len(row))
		for i, v := range row {
			list[i] = names[v]
		}
		return list
	}
	between := scriptsBetween(3, false)
	all := rows(3, len(names))
	for _, one := range all {
		for _, other := range all {
			a, b := named(one), named(other)
			for _, s := range between[[2]int{len(a), len(b)}] {
				blanks(t, s, a, b, plainBlanks(s, a, b))
			}
		}
	}
}

// SL2: lists and scripts of thousands.
func TestThousandsOfBlanks(t *testing.T) {
	next := steps(9)
	row := next.repeated(9000, 5)
	s, other := next.changed(row, 4, 5)
	names := []string{"\n", " \n", "\t\v\f\r\n", "x\n", ""}
	a, b := make([]string, len(row)), make([]string, len(other))
	for i, v := range row {
		a[i] = names[v]
	}
	for i, v := range other {
		b[i] = names[v]
	}
	want := plainBlanks(s, a, b)
	if len(want) < 100 || len(want) > len(s)-100 {
		t.Error("of", len(s), "changes", len(want), "are left")
	}
	blanks(t, s, a, b, want)
}
