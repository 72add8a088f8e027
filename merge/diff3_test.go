package merge

import (
	"strings"
	"testing"
)

// noEnd is what Diff3 tells behind a line without an end.
const noEnd = `\ No newline at end of file`

// telling is what Diff3 is given, and the lines that it tells.
type telling struct {
	what string
	g    given
	want []string
}

// tellAll asks Diff3 for all of these.
func tellAll(t *testing.T, all []telling) {
	t.Helper()
	for _, c := range all {
		tells(t, c.what, c.g, c.want...)
	}
}

// ME6: nothing is told where nobody changed anything.
func TestDiff3OfNothing(t *testing.T) {
	for _, base := range []string{"", "1", "1|", "12345", "12345|"} {
		tells(t, base, of(base, nil, nil))
	}
}

// ME6: a change of mine: the lines of 2 and 3 are the same, and are told behind 3 alone.
func TestDiff3OfMine(t *testing.T) {
	tellAll(t, []telling{
		{"one line", of("123", []put{{1, 1, "x"}}, nil), []string{"====1", "1:2c", "  x", "2:2c", "3:2c", "  2"}},
		{"the first line", of("123", []put{{0, 1, "x"}}, nil), []string{"====1", "1:1c", "  x", "2:1c", "3:1c", "  1"}},
		{"the last line", of("123", []put{{2, 1, "x"}}, nil), []string{"====1", "1:3c", "  x", "2:3c", "3:3c", "  3"}},
		{"several lines", of("12345", []put{{1, 3, "xy"}}, nil), []string{"====1", "1:2,3c", "  x", "  y", "2:2,4c", "3:2,4c", "  2", "  3", "  4"}},
		{"lines come", of("12", []put{{1, 0, "xy"}}, nil), []string{"====1", "1:2,3c", "  x", "  y", "2:1a", "3:1a"}},
		{"a line comes at the beginning", of("12", []put{{0, 0, "x"}}, nil), []string{"====1", "1:1c", "  x", "2:0a", "3:0a"}},
		{"a line comes at the end", of("12", []put{{2, 0, "x"}}, nil), []string{"====1", "1:3c", "  x", "2:2a", "3:2a"}},
		{"lines go", of("1234", []put{{1, 2, ""}}, nil), []string{"====1", "1:1a", "2:2,3c", "3:2,3c", "  2", "  3"}},
		{"all lines go", of("12", []put{{0, 2, ""}}, nil), []string{"====1", "1:0a", "2:1,2c", "3:1,2c", "  1", "  2"}},
		{"lines come to no text", of("", []put{{0, 0, "xy"}}, nil), []string{"====1", "1:1,2c", "  x", "  y", "2:0a", "3:0a"}},
		{"an end goes", of("12", []put{{1, 1, "2|"}}, nil), []string{"====1", "1:2c", "  2", noEnd, "2:2c", "3:2c", "  2"}},
		{"an end comes", of("12|", []put{{1, 1, "2"}}, nil), []string{"====1", "1:2c", "  2", "2:2c", "3:2c", "  2", noEnd}},
		{"lines without an end", of("12|", []put{{0, 2, "xy|"}}, nil), []string{"====1", "1:1,2c", "  x", "  y", noEnd, "2:1,2c", "3:1,2c", "  1", "  2", noEnd}},
	})
}

// ME6: a change of yours: the lines of 1 and 2 are the same, and are told behind 2 alone.
func TestDiff3OfYours(t *testing.T) {
	tellAll(t, []telling{
		{"one line", of("123", nil, []put{{1, 1, "y"}}), []string{"====3", "1:2c", "2:2c", "  2", "3:2c", "  y"}},
		{"several lines", of("12345", nil, []put{{1, 3, "xy"}}), []string{"====3", "1:2,4c", "2:2,4c", "  2", "  3", "  4", "3:2,3c", "  x", "  y"}},
		{"lines come", of("12", nil, []put{{1, 0, "xy"}}), []string{"====3", "1:1a", "2:1a", "3:2,3c", "  x", "  y"}},
		{"a line comes at the beginning", of("12", nil, []put{{0, 0, "y"}}), []string{"====3", "1:0a", "2:0a", "3:1c", "  y"}},
		{"a line comes at the end", of("12", nil, []put{{2, 0, "y"}}), []string{"====3", "1:2a", "2:2a", "3:3c", "  y"}},
		{"lines go", of("1234", nil, []put{{1, 2, ""}}), []string{"====3", "1:2,3c", "2:2,3c", "  2", "  3", "3:1a"}},
		{"all lines go", of("1", nil, []put{{0, 1, ""}}), []string{"====3", "1:1c", "2:1c", "  1", "3:0a"}},
		{"an end goes", of("12", nil, []put{{1, 1, "2|"}}), []string{"====3", "1:2c", "2:2c", "  2", "3:2c", "  2", noEnd}},
		{"an end comes", of("12|", nil, []put{{1, 1, "2"}}), []string{"====3", "1:2c", "2:2c", "  2", noEnd, "3:2c", "  2"}},
	})
}

// ME6: a change of both: told in the order 1, 3, 2, and the lines of 1 and 3, which are the same, behind 3 alone.
func TestDiff3OfBoth(t *testing.T) {
	both := func(base string, puts ...put) given { return of(base, puts, puts) }
	tellAll(t, []telling{
		{"one line", both("123", put{1, 1, "x"}), []string{"====2", "1:2c", "3:2c", "  x", "2:2c", "  2"}},
		{"several lines", both("12345", put{1, 3, "xy"}), []string{"====2", "1:2,3c", "3:2,3c", "  x", "  y", "2:2,4c", "  2", "  3", "  4"}},
		{"lines come", both("12", put{1, 0, "xy"}), []string{"====2", "1:2,3c", "3:2,3c", "  x", "  y", "2:1a"}},
		{"a line comes to no text", both("", put{0, 0, "x|"}), []string{"====2", "1:1c", "3:1c", "  x", noEnd, "2:0a"}},
		{"lines go", both("1234", put{1, 2, ""}), []string{"====2", "1:1a", "3:1a", "2:2,3c", "  2", "  3"}},
		{"all lines go", both("1|", put{0, 1, ""}), []string{"====2", "1:0a", "3:0a", "2:1c", "  1", noEnd}},
		{"lines without an end", both("12|", put{1, 1, "xy|"}), []string{"====2", "1:2,3c", "3:2,3c", "  x", "  y", noEnd, "2:2c", "  2", noEnd}},
		{"by other changes", of("1223", []put{{1, 1, ""}}, []put{{2, 1, ""}}), []string{"====2", "1:2c", "3:2c", "  2", "2:2,3c", "  2", "  2"}},
	})
}

// ME6: a clash: all three are told with their lines, in the order 1, 2, 3.
func TestDiff3OfClash(t *testing.T) {
	tellAll(t, []telling{
		{"one line", of("123", []put{{1, 1, "x"}}, []put{{1, 1, "y"}}), []string{"====", "1:2c", "  x", "2:2c", "  2", "3:2c", "  y"}},
		{"several lines", of("1234", []put{{1, 2, "wx"}}, []put{{1, 2, "xyz"}}), []string{"====", "1:2,3c", "  w", "  x", "2:2,3c", "  2", "  3", "3:2,4c", "  x", "  y", "  z"}},
		{"changes that touch", of("12345", []put{{1, 1, "x"}}, []put{{2, 1, "w"}}), []string{"====", "1:2,3c", "  x", "  3", "2:2,3c", "  2", "  3", "3:2,3c", "  2", "  w"}},
		{"lines come at one place", of("12", []put{{1, 0, "x"}}, []put{{1, 0, "yz"}}), []string{"====", "1:2c", "  x", "2:1a", "3:2,3c", "  y", "  z"}},
		{"lines come to no text", of("", []put{{0, 0, "x"}}, []put{{0, 0, "y"}}), []string{"====", "1:1c", "  x", "2:0a", "3:1c", "  y"}},
		{"mine's lines go", of("123", []put{{1, 1, ""}}, []put{{1, 1, "y"}}), []string{"====", "1:1a", "2:2c", "  2", "3:2c", "  y"}},
		{"yours' lines go", of("123", []put{{1, 1, "x"}}, []put{{1, 1, ""}}), []string{"====", "1:2c", "  x", "2:2c", "  2", "3:1a"}},
		{"mine without an end", of("12", []put{{1, 1, "x|"}}, []put{{1, 1, "y"}}), []string{"====", "1:2c", "  x", noEnd, "2:2c", "  2", "3:2c", "  y"}},
		{"the base without an end", of("12|", []put{{1, 1, "x"}}, []put{{1, 1, "y"}}), []string{"====", "1:2c", "  x", "2:2c", "  2", noEnd, "3:2c", "  y"}},
		{"yours without an end", of("12", []put{{1, 1, "x"}}, []put{{1, 1, "y|"}}), []string{"====", "1:2c", "  x", "2:2c", "  2", "3:2c", "  y", noEnd}},
		{"all without an end", of("12|", []put{{0, 2, "wx|"}}, []put{{1, 1, "y|"}}), []string{"====", "1:1,2c", "  w", "  x", noEnd, "2:1,2c", "  1", "  2", noEnd, "3:1,2c", "  1", "  y", noEnd}},
	})
}

// ME6: several chunks, one behind the other; each text's numbers are its own.
func TestDiff3OfSeveral(t *testing.T) {
	g := of("123456789",
		[]put{{0, 1, "xxx"}, {4, 1, ""}, {6, 1, "x"}, {8, 1, "x"}},
		[]put{{2, 1, "yy"}, {6, 1, "y"}, {8, 1, "x"}})
	tells(t, "each kind", g,
		"====1", "1:1,3c", "  x", "  x", "  x", "2:1c", "3:1c", "  1",
		"====3", "1:5c", "2:3c", "  3", "3:3,4c", "  y", "  y",
		"====1", "1:6a", "2:5c", "3:6c", "  5",
		"====", "1:8c", "  x", "2:7c", "  7", "3:8c", "  y",
		"====2", "1:10c", "3:10c", "  x", "2:9c", "  9",
	)
}

// ME6: lines of any bytes; a line that looks like one of the diff is told as any other one.
func TestDiff3OfAnyLines(t *testing.T) {
	s := script([4]int{0, 2, 0, 4})
	mine := []string{"\n", "\r\n", "====\n", "  \\\x00\xff"}
	base := []string{"1:1c\n", "\n"}
	want := "====1\n1:1,4c\n  \n  \r\n  ====\n    \\\x00\xff\n" + noEnd + "\n2:1,2c\n3:1,2c\n  1:1c\n  \n"
	if got, err := Diff3(s, nil, base, mine, base); err != nil || got != want {
		t.Errorf("%q, %v, not %q", got, err, want)
	}
}

// ME6: numbers of many places.
func TestDiff3OfGreatNumbers(t *testing.T) {
	const n = 1234567
	base := strings.SplitAfter(strings.Repeat("\n", n), "\n")[:n]
	mine := append(base[:n:n], "x\n", "y")
	got, err := Diff3(script([4]int{n, 0, n, 2}), nil, base, mine, base)
	if want := "====1\n1:1234568,1234569c\n  x\n  y\n" + noEnd + "\n2:1234567a\n3:1234567a\n"; err != nil || got != want {
		t.Errorf("%q, %v, not %q", got, err, want)
	}
}
