package difftext

import (
	"selvage/api"
	"strings"
	"testing"
)

// A text is read line by line, each with an end, and the last one may have none.
func TestReader(t *testing.T) {
	r := NewReader("a\n\nb")
	left := []string{"a\n\nb", "\nb", "b", "", ""}
	for i, want := range []string{"a\n", "\n", "b\n", "", ""} {
		line := r.Next()
		if line != want || r.Line != i+1 || r.Left() != left[i] {
			t.Errorf("%q at %d, not %q at %d, left %q", line, r.Line, want, i+1, r.Left())
		}
		r.Pass(line)
	}
}

// A row's line loses its end to the line right behind it, and to that one alone.
func TestRow(t *testing.T) {
	for _, c := range []struct {
		text, row, next string
		line            int
	}{
		{"! a\n! b\n", "a\n", "! b\n", 2},
		{"! a\n\\ x\n! b\n", "a", "! b\n", 3},
		{"! a\n\\\n\\\n", "a", "\\\n", 3},
		{"! a\n\\", "a", "", 3},
		{"! a", "a\n", "", 2},
		{"! \n\\\n", "", "", 3},
	} {
		r := NewReader(c.text)
		row := r.Row(r.Next(), 2)
		if row != c.row || r.Next() != c.next || r.Line != c.line {
			t.Errorf("%q: %q, then %q at %d", c.text, row, r.Next(), r.Line)
		}
	}
}

// Numbers are digits, at most MaxNumber.
func TestNumber(t *testing.T) {
	for text, want := range map[string]int{"0": 0, "1": 1, "007": 7, "2147483647": api.MaxNumber, strings.Repeat("0", 99) + "5": 5} {
		if n, ok := Number(text); n != want || !ok {
			t.Error(text, n, ok)
		}
	}
	for _, text := range []string{"", " 1", "1 ", "+1", "-1", "x", "1x", "0x1", "1_0", "2147483648", "18446744073709551616", strings.Repeat("9", 99)} {
		if n, ok := Number(text); n != 0 || ok {
			t.Error(text, n, ok)
		}
	}
}

// A range is one number, or two, the second one not below the first.
func TestRange(t *testing.T) {
	for text, want := range map[string][2]int{"0": {0, 0}, "7": {7, 7}, "1,2": {1, 2}, "3,3": {3, 3}, "0,0": {0, 0}, "007,08": {7, 8}, "0,2147483647": {0, api.MaxNumber}} {
		if first, last, ok := Range(text); first != want[0] || last != want[1] || !ok {
			t.Error(text, first, last, ok)
		}
	}
	for _, text := range []string{"", ",", "1,", ",1", "0,", ",0", "2,1", "1,0", "1,2,3", "x", "0,x", "x,0", "x,1", "1 ,2", "1, 2", "2147483648", "0,2147483648", "2147483648,2147483648"} {
		if first, last, ok := Range(text); ok {
			t.Error(text, first, last)
		}
	}
}

// A range of lines is told by its first one and its last one, and one number where there is one, or none.
func TestRangeText(t *testing.T) {
	for _, c := range []struct {
		first, n int
		want     string
	}{{0, 0, "0"}, {7, 0, "7"}, {1, 1, "1"}, {1, 2, "1,2"}, {9, 3, "9,11"}, {api.MaxNumber - 2, 2, "2147483645,2147483646"}, {api.MaxNumber, 0, "2147483647"}} {
		if got := RangeText(c.first, c.n); got != c.want {
			t.Error(c, got)
		}
	}
}

// Behind a hunk's first line stands nothing, or a blank and its heading.
func TestHead(t *testing.T) {
	for _, c := range []struct {
		behind, head string
		ok           bool
	}{{"", "", true}, {" ", "", true}, {" f", "f", true}, {"  f", " f", true}, {"f", "", false}, {"\tf", "", false}} {
		if head, ok := Head(c.behind); ok != c.ok || ok && head != c.head {
			t.Errorf("%q: %q %t", c.behind, head, ok)
		}
	}
}

// A hunk begins behind the end of the last one ahead of it, on both sides.
func TestInOrder(t *testing.T) {
	ahead := []api.Hunk{{A: 9, N: 9, B: 9, M: 9}, {A: 2, N: 2, B: 4, M: 0}} // the old lines 2 and 3, behind the new line 4
	for _, c := range []struct {
		h  api.Hunk
		ok bool
	}{
		{api.Hunk{A: 4, N: 1, B: 5, M: 1}, true},
		{api.Hunk{A: 3, N: 1, B: 5, M: 1}, false},
		{api.Hunk{A: 4, N: 1, B: 4, M: 1}, false},
		{api.Hunk{A: 3, N: 0, B: 4, M: 0}, true},
		{api.Hunk{A: 2, N: 0, B: 5, M: 1}, false},
		{api.Hunk{A: 4, N: 1, B: 3, M: 0}, false},
	} {
		if InOrder(ahead, c.h) != c.ok || !InOrder(nil, c.h) {
			t.Error(c.h)
		}
	}
}

// What each hunk is comes ahead of how they stand.
func TestCheck(t *testing.T) {
	fine := api.Hunk{A: 1, N: 1, B: 0, Rows: []api.Row{{Kind: api.RowOld, Text: "a\n"}}}
	next := fine
	next.A = 2
	var bad api.Hunk
	for _, c := range []struct {
		l    []api.Hunk
		want error
	}{
		{nil, nil},
		{[]api.Hunk{fine}, nil},
		{[]api.Hunk{fine, next}, nil},
		{[]api.Hunk{next, fine}, api.ErrOrder},
		{[]api.Hunk{fine, fine}, api.ErrOrder},
		{[]api.Hunk{bad}, api.ErrHunk},
		{[]api.Hunk{fine, bad}, api.ErrHunk},
		{[]api.Hunk{fine, fine, bad}, api.ErrHunk},
	} {
		if err := Check(c.l); err != c.want {
			t.Error(c.l, err)
		}
	}
}
