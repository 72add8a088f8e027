package stat

import (
	"fmt"
	"math"
	"selvage/api"
	"selvage/quote"
	"slices"
	"strings"
	"testing"
)

// badLists are lists of counts that may not be.
func badLists() [][]Count {
	fine := Count{"f", 3, 4}
	var all [][]Count
	for _, n := range []int{math.MinInt, -api.MaxNumber, -1, api.MaxNumber + 1, 2 * api.MaxNumber, math.MaxInt} {
		for _, bad := range []Count{{"f", n, 0}, {"f", 0, n}, {"f", n, n}, {"f", n, -n}} {
			all = append(all, []Count{bad}, []Count{bad, fine}, []Count{fine, bad}, []Count{fine, bad, fine})
		}
		// one that may not be makes up for another one
		all = append(all, []Count{{"f", n, 0}, {"f", -n, 0}}, []Count{{"f", 0, n}, {"f", 0, -n}})
	}
	const most = api.MaxNumber
	return append(all,
		[]Count{{"a", most, 0}, {"b", 1, 0}},
		[]Count{{"a", 0, 1}, {"b", 0, most}},
		[]Count{{"a", most, most}, {"a", 0, 1}},
		[]Count{{"a", most - 1, 0}, {"b", 1, 0}, {"c", 0, 0}, {"d", 1, 0}},
		// sums that would pass the greatest int, with more counts than there may be and without
		[]Count{{"a", math.MaxInt, 0}, {"b", 1, 0}},
		[]Count{{"a", 0, math.MaxInt}, {"b", 0, math.MaxInt}, {"c", 0, 2}},
		[]Count{{"a", math.MinInt, 0}, {"b", math.MinInt, 0}},
		slices.Repeat([]Count{{"a", most, 0}}, api.MaxNodes),
		slices.Repeat([]Count{{"a", 0, most}}, api.MaxNodes),
		slices.Repeat([]Count{{}}, api.MaxNodes+1),
		slices.Repeat([]Count{{"a", 1, 1}}, api.MaxNodes+1),
		slices.Repeat([]Count{{"a", -1, 1}}, api.MaxNodes+1),
	)
}

// shown is a list of counts as a test tells it.
func shown(l []Count) string {
	return fmt.Sprintf("%.200s", fmt.Sprint(l[:min(len(l), 5)]))
}

// isTotal fails where Total does not tell what is wanted.
func isTotal(t *testing.T, want string, l ...Count) {
	t.Helper()
	got, err := Total(l)
	isText(t, shown(l), got, err, " "+want+"\n")
}

// ST3: no count, one, several, with 0, 1 and more insertions and deletions.
func TestTotal(t *testing.T) {
	isTotal(t, "0 files changed")
	for i, adds := range []string{"", ", 1 insertion(+)", ", 2 insertions(+)", ", 3 insertions(+)"} {
		for j, dels := range []string{"", ", 1 deletion(-)", ", 2 deletions(-)", ", 3 deletions(-)"} {
			isTotal(t, "1 file changed"+adds+dels, Count{"f", i, j})
			isTotal(t, "1 file changed"+adds+dels, Count{"", i, j})
			isTotal(t, "2 files changed"+adds+dels, Count{"f", i, j}, Count{"g", 0, 0})
			isTotal(t, "3 files changed"+adds+dels, Count{"f", i, 0}, Count{"f", 0, j}, Count{"f", 0, 0})
		}
	}
	isTotal(t, "2 files changed, 2 insertions(+)", Count{"f", 1, 0}, Count{"g", 1, 0})
	isTotal(t, "2 files changed, 2 deletions(-)", Count{"f", 0, 1}, Count{"g", 0, 1})
	isTotal(t, "2 files changed, 30 insertions(+), 103 deletions(-)", Count{"f", 10, 100}, Count{"g", 20, 3})
}

// ST3: numbers and sums that are just the greatest ones, and as many counts as there may be.
func TestTotalOfMuch(t *testing.T) {
	const most = api.MaxNumber
	isTotal(t, "1 file changed, 2147483647 insertions(+), 2147483647 deletions(-)", Count{"f", most, most})
	isTotal(t, "2 files changed, 2147483647 insertions(+)", Count{"f", most, 0}, Count{"g", 0, 0})
	isTotal(t, "2 files changed, 2147483647 insertions(+), 2147483647 deletions(-)", Count{"f", most - 1, 1}, Count{"g", 1, most - 1})
	isTotal(t, "65536 files changed", slices.Repeat([]Count{{}}, api.MaxNodes)...)
	isTotal(t, "65536 files changed, 65536 insertions(+), 131072 deletions(-)", slices.Repeat([]Count{{"f", 1, 2}}, api.MaxNodes)...)
	isTotal(t, "65536 files changed, 2147418112 insertions(+)", slices.Repeat([]Count{{"f", most / api.MaxNodes, 0}}, api.MaxNodes)...)
}

// ST3, ST4, ST6: lists that may not be: ErrArg, and nothing beside it.
func TestListErrors(t *testing.T) {
	for _, l := range badLists() {
		got, err := Total(l)
		noText(t, "Total "+shown(l), got, err, api.ErrArg)
		for _, width := range []int{-1, 0, 80, 1020, 1021} {
			got, err = Table(l, width)
			noText(t, "Table "+shown(l), got, err, api.ErrArg)
		}
		got, err = Numbers(l)
		noText(t, "Numbers "+shown(l), got, err, api.ErrArg)
		sums, err := Sum(l)
		isErr(t, "Sum "+shown(l), err, api.ErrArg)
		if len(sums) > 0 {
			t.Errorf("%v beside %v", sums, err)
		}
	}
}

// ST4: the widths that there are not, and those next to them.
func TestTableWidths(t *testing.T) {
	for _, l := range [][]Count{nil, {{"f", 1, 2}}, {{"f", 1, 2}, {"g", 0, 0}}} {
		for _, width := range []int{math.MinInt, -80, -1, api.MaxName*4 + 1, api.MaxNumber, math.MaxInt} {
			got, err := Table(l, width)
			noText(t, fmt.Sprint(l, width), got, err, api.ErrArg)
		}
		for _, width := range []int{0, 1, 80, api.MaxName*4 - 1, api.MaxName * 4} {
			_, err := Table(l, width)
			isErr(t, fmt.Sprint(l, width), err, nil)
		}
	}
}

// isTable fails where Table does not tell the lines that are wanted.
func isTable(t *testing.T, l []Count, width int, want ...string) {
	t.Helper()
	got, err := Table(l, width)
	told := ""
	for _, line := range want {
		told += " " + line + "\n"
	}
	isText(t, fmt.Sprint(shown(l), " ", width), got, err, told)
}

// ST4: names and numbers of different lengths, names that must be quoted, counts without any change.
func TestTable(t *testing.T) {
	for _, width := range []int{0, 40, 80, api.MaxName * 4} {
		isTable(t, nil, width, "0 files changed")
		isTable(t, []Count{{"a", 1, 1}}, width, "a | 2 +-", "1 file changed, 1 insertion(+), 1 deletion(-)")
		isTable(t, []Count{{"a", 0, 0}}, width, "a | 0", "1 file changed")
		isTable(t, []Count{{"", 0, 0}, {"bcd", 0, 0}}, width, `""  | 0`, "bcd | 0", "2 files changed")
		isTable(t, []Count{{"long/name", 2, 0}, {"b", 0, 3}, {"", 0, 0}}, width,
			"long/name | 2 ++", "b         | 3 ---", `""        | 0`, "3 files changed, 2 insertions(+), 3 deletions(-)")
		isTable(t, []Count{{"a b", 1, 0}, {"\xc3\xa4", 0, 1}, {"x\ny", 1, 1}, {`"`, 0, 0}, {"abcdefghijk", 1, 0}}, width,
			`"a b"       | 1 +`, `"\303\244"  | 1 -`, `"x\ny"      | 2 +-`, `"\""        | 0`, "abcdefghijk | 1 +", "5 files changed, 3 insertions(+), 2 deletions(-)")
		// a name that is the longest just because it is quoted
		isTable(t, []Count{{"\x01", 1, 0}, {"abcde", 1, 0}}, width, `"\001" | 1 +`, "abcde  | 1 +", "2 files changed, 2 insertions(+)")
		// the same name twice is two rows
		isTable(t, []Count{{"a", 1, 0}, {"b", 0, 1}, {"a", 1, 0}}, width, "a | 1 +", "b | 1 -", "a | 1 +", "3 files changed, 2 insertions(+), 1 deletion(-)")
	}
}

// ST4: numbers of different lengths, and bars that are scaled by the greatest.
func TestTableScales(t *testing.T) {
	bar := func(plus, minus int) string { return strings.Repeat("+", plus) + strings.Repeat("-", minus) }
	l := []Count{{"a", 60, 40}, {"b", 7, 0}, {"c", 0, 0}, {"d", 0, 50}, {"e", 1, 1}}
	total := "5 files changed, 68 insertions(+), 91 deletions(-)"
	isTable(t, l, 0, "a | 100 "+bar(6, 4), "b |   7 +", "c |   0", "d |  50 "+bar(0, 5), "e |   2 +-", total)
	// 10 is the bar's width up to width 19: less the names' 1, the numbers' 3, and 5
	isTable(t, l, 18, "a | 100 "+bar(6, 4), "b |   7 +", "c |   0", "d |  50 "+bar(0, 5), "e |   2 +-", total)
	isTable(t, l, 19, "a | 100 "+bar(6, 4), "b |   7 +", "c |   0", "d |  50 "+bar(0, 5), "e |   2 +-", total)
	isTable(t, l, 20, "a | 100 "+bar(6, 5), "b |   7 +", "c |   0", "d |  50 "+bar(0, 6), "e |   2 +-", total)
	isTable(t, l, 40, "a | 100 "+bar(18, 13), "b |   7 +++", "c |   0", "d |  50 "+bar(0, 16), "e |   2 +-", total)
	// the greatest has just the bar's width, and one column more than it
	isTable(t, l, 108, "a | 100 "+bar(59, 40), "b |   7 "+bar(7, 0), "c |   0", "d |  50 "+bar(0, 50), "e |   2 +-", total)
	isTable(t, l, 109, "a | 100 "+bar(60, 40), "b |   7 "+bar(7, 0), "c |   0", "d |  50 "+bar(0, 50), "e |   2 +-", total)
	isTable(t, l, 110, "a | 100 "+bar(60, 40), "b |   7 "+bar(7, 0), "c |   0", "d |  50 "+bar(0, 50), "e |   2 +-", total)
	// no bar is as wide as most, though there are as many lines as may be
	const most = api.MaxNumber
	isTable(t, []Count{{"a", most, most}, {"b", 0, 0}}, 80, "a | 4294967294 "+bar(32, 32), "b |          0", "2 files changed, 2147483647 insertions(+), 2147483647 deletions(-)")
	// a name that takes more than the width
	long := strings.Repeat("x", 2000)
	isTable(t, []Count{{long, 10, 0}, {"b", 0, 11}}, 80, long+" | 10 "+bar(9, 0), "b"+strings.Repeat(" ", 1999)+" | 11 "+bar(0, 10), "2 files changed, 10 insertions(+), 11 deletions(-)")
}

// tableByWords is what ST4 says, by the chapter's words.
func tableByWords(l []Count, width int) string {
	names, numbers, most := 0, 0, 0
	for _, c := range l {
		names = max(names, len(quote.Quote(c.Name)))
		numbers = max(numbers, len(fmt.Sprint(c.Adds+c.Dels)))
		most = max(most, c.Adds+c.Dels)
	}
	text := ""
	for _, c := range l {
		row := fmt.Sprintf(" %-*s | %*d", names, quote.Quote(c.Name), numbers, c.Adds+c.Dels)
		plus, minus := barByWords(int64(c.Adds), int64(c.Dels), int64(max(10, width-names-numbers-5)), int64(most))
		if plus+minus > 0 {
			row += " " + strings.Repeat("+", int(plus)) + strings.Repeat("-", int(minus))
		}
		text += row + "\n"
	}
	return text + totalByWords(l)
}

// totalByWords is what ST3 says, by the chapter's words.
func totalByWords(l []Count) string {
	adds, dels := 0, 0
	for _, c := range l {
		adds, dels = adds+c.Adds, dels+c.Dels
	}
	text := fmt.Sprintf(" %d files changed", len(l))
	if adds > 0 {
		text += fmt.Sprintf(", %d insertions(+)", adds)
	}
	if dels > 0 {
		text += fmt.Sprintf(", %d deletions(-)", dels)
	}
	for _, word := range []string{"file", "insertion", "deletion"} {
		text = strings.Replace(text, " 1 "+word+"s", " 1 "+word, 1)
	}
	return text + "\n"
}

// randomCounts are some counts: few names, small numbers and great ones.
func randomCounts(next *steps, most int) []Count {
	names := []string{"", "a", "b", "a b", "ab", "long/name", "\t", "\xff", `"a"`}
	var l []Count
	for range next.below(most + 1) {
		top := []int{1, 3, 12, 1000, 1 << 20}[next.below(5)]
		l = append(l, Count{names[next.below(len(names))], next.below(top), next.below(top)})
	}
	return l
}

// ST3, ST4: Total and Table of many lists, by the chapter's words.
func TestTablesByWords(t *testing.T) {
	next := steps(11)
	for range 20000 {
		l := randomCounts(&next, 6)
		width := next.below(130)
		got, err := Table(l, width)
		isText(t, fmt.Sprint(l, width), got, err, tableByWords(l, width))
		got, err = Total(l)
		isText(t, fmt.Sprint(l), got, err, totalByWords(l))
	}
}

// ST4, ST5: a row with a bar is no wider than the width, where the bar's width is not the least one; no other has a blank at its end.
func TestTablesFit(t *testing.T) {
	next := steps(13)
	for range 5000 {
		l := randomCounts(&next, 6)
		width := 35 + next.below(100)
		got, err := Table(l, width)
		isErr(t, "Table", err, nil)
		rows := strings.Split(got, "\n")
		for i, c := range l {
			if len(rows[i]) > width || strings.HasSuffix(rows[i], " ") || strings.HasSuffix(rows[i], "+") != (c.Adds > 0 && c.Dels == 0) || strings.HasSuffix(rows[i], "-") != (c.Dels > 0) {
				t.Fatalf("%v, width %d: %q", c, width, rows[i])
			}
		}
	}
}
