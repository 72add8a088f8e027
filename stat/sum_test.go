package stat

import (
	"fmt"
	"selvage/api"
	"selvage/quote"
	"slices"
	"strconv"
	"strings"
	"testing"
)

// isSum fails where Sum does not answer what is wanted.
func isSum(t *testing.T, l []Count, want ...Count) {
	t.Helper()
	got, err := Sum(l)
	if err != nil || !slices.Equal(got, want) {
		t.Errorf("Sum(%q): %q, %v, not %q", shown(l), shown(got), err, shown(want))
	}
}

// ST6: names that stand once, twice and more often, next to each other and apart, and their order.
func TestSum(t *testing.T) {
	isSum(t, nil)
	isSum(t, []Count{{"a", 1, 2}}, Count{"a", 1, 2})
	isSum(t, []Count{{"", 0, 0}}, Count{"", 0, 0})
	isSum(t, []Count{{"b", 1, 2}, {"a", 3, 4}}, Count{"b", 1, 2}, Count{"a", 3, 4})
	isSum(t, []Count{{"a", 3, 4}, {"b", 1, 2}}, Count{"a", 3, 4}, Count{"b", 1, 2})
	// next to each other
	isSum(t, []Count{{"a", 1, 2}, {"a", 3, 4}}, Count{"a", 4, 6})
	isSum(t, []Count{{"a", 1, 2}, {"a", 3, 4}, {"a", 5, 6}, {"b", 0, 1}}, Count{"a", 9, 12}, Count{"b", 0, 1})
	// apart
	isSum(t, []Count{{"b", 1, 2}, {"a", 3, 4}, {"b", 5, 6}}, Count{"b", 6, 8}, Count{"a", 3, 4})
	isSum(t, []Count{{"c", 1, 0}, {"a", 2, 0}, {"b", 3, 0}, {"a", 0, 4}, {"c", 5, 5}, {"a", 1, 1}}, Count{"c", 6, 5}, Count{"a", 3, 5}, Count{"b", 3, 0})
	// the empty name, without changes and with some
	isSum(t, []Count{{"", 0, 0}, {"a", 1, 0}, {"", 0, 0}}, Count{"", 0, 0}, Count{"a", 1, 0})
	isSum(t, []Count{{"a", 1, 0}, {"", 2, 1}, {"", 0, 3}}, Count{"a", 1, 0}, Count{"", 2, 4})
	// names that are nearly the same
	isSum(t, []Count{{"a", 1, 0}, {"A", 2, 0}, {"a ", 3, 0}, {"./a", 4, 0}, {`"a"`, 5, 0}, {"a\x00", 6, 0}},
		Count{"a", 1, 0}, Count{"A", 2, 0}, Count{"a ", 3, 0}, Count{"./a", 4, 0}, Count{`"a"`, 5, 0}, Count{"a\x00", 6, 0})
	// as many as there may be
	isSum(t, []Count{{"a", api.MaxNumber - 1, 1}, {"a", 1, api.MaxNumber - 1}}, Count{"a", api.MaxNumber, api.MaxNumber})
	isSum(t, slices.Repeat([]Count{{"a", 1, 2}}, api.MaxNodes), Count{"a", api.MaxNodes, 2 * api.MaxNodes})
}

// isNumbers fails where Numbers does not tell the lines that are wanted.
func isNumbers(t *testing.T, l []Count, want string) {
	t.Helper()
	got, err := Numbers(l)
	isText(t, shown(l), got, err, want)
}

// ST6: the lines of counts, names that must be quoted too.
func TestNumbers(t *testing.T) {
	isNumbers(t, nil, "")
	isNumbers(t, []Count{{"a", 0, 0}}, "0\t0\ta\n")
	isNumbers(t, []Count{{"b/c", 12, 345}, {"a", 0, 1}, {"b/c", 1, 0}}, "12\t345\tb/c\n0\t1\ta\n1\t0\tb/c\n")
	isNumbers(t, []Count{{"", 1, 0}, {"a b", 0, 2}, {"x\ty\n", 3, 3}, {"\xc3\xa4", 4, 0}, {`\`, 0, 0}},
		"1\t0\t\"\"\n0\t2\t\"a b\"\n3\t3\t\"x\\ty\\n\"\n4\t0\t\"\\303\\244\"\n0\t0\t\"\\\\\"\n")
	isNumbers(t, []Count{{"a", api.MaxNumber, api.MaxNumber}}, "2147483647\t2147483647\ta\n")
	isNumbers(t, slices.Repeat([]Count{{"a", 1, 2}}, api.MaxNodes), strings.Repeat("1\t2\ta\n", api.MaxNodes))
}

// readNumbers are the counts that lines tell.
func readNumbers(text string) ([]Count, error) {
	var l []Count
	for text != "" {
		adds, rest, _ := strings.Cut(text, "\t")
		dels, rest, _ := strings.Cut(rest, "\t")
		name, rest, err := quote.Unquote(rest)
		if err != nil || !strings.HasPrefix(rest, "\n") {
			return nil, fmt.Errorf("no name, %v: %q", err, text)
		}
		n, err := strconv.Atoi(adds)
		if err != nil {
			return nil, err
		}
		m, err := strconv.Atoi(dels)
		if err != nil {
			return nil, err
		}
		l = append(l, Count{name, n, m})
		text = rest[1:]
	}
	return l, nil
}

// smallLists are all lists of at most so many of some counts.
func smallLists(counts []Count, most int) [][]Count {
	all := [][]Count{nil}
	for from := 0; most > 0; most-- {
		longest := all[from:]
		from = len(all)
		for _, l := range longest {
			for _, c := range counts {
				all = append(all, append(slices.Clone(l), c))
			}
		}
	}
	return all
}

// sumByWords is what ST6 says, looked up one by one.
func sumByWords(l []Count) []Count {
	var sums []Count
	for _, c := range l {
		at := slices.IndexFunc(sums, func(s Count) bool { return s.Name == c.Name })
		if at < 0 {
			at = len(sums)
			sums = append(sums, Count{Name: c.Name})
		}
		sums[at].Adds += c.Adds
		sums[at].Dels += c.Dels
	}
	return sums
}

// keepsSums fails where a list is not as ST7 says.
func keepsSums(t *testing.T, l []Count) {
	t.Helper()
	sums, err := Sum(l)
	isErr(t, "Sum", err, nil)
	if !slices.Equal(sums, sumByWords(l)) {
		t.Fatalf("Sum(%v): %v", l, sums)
	}
	for i, c := range sums {
		if slices.ContainsFunc(sums[:i], func(s Count) bool { return s.Name == c.Name }) {
			t.Fatalf("Sum(%v) has %q twice", l, c.Name)
		}
	}
	isSum(t, sums, sums...)
	long, _ := Total(l)
	short, err := Total(sums)
	isErr(t, "Total", err, nil)
	_, long, _ = strings.Cut(long, "changed")
	_, short, _ = strings.Cut(short, "changed")
	if long != short {
		t.Fatalf("%v: %q, but of its sums %q", l, long, short)
	}
	text, err := Numbers(l)
	isErr(t, "Numbers", err, nil)
	back, err := readNumbers(text)
	if err != nil || !slices.Equal(back, l) {
		t.Fatalf("%v has become %v, %v", l, back, err)
	}
}

// ST7: over all small lists, and many longer ones.
func TestSumsAndNumbers(t *testing.T) {
	for _, l := range smallLists([]Count{{"a", 0, 0}, {"a", 1, 0}, {"b", 0, 1}, {"", 2, 1}, {"a b\n", 10, 3}, {"\t", 0, 7}}, 5) {
		keepsSums(t, l)
	}
	next := steps(17)
	for range 5000 {
		keepsSums(t, randomCounts(&next, 40))
	}
}

// ST7: names of every byte, and of each pair of bytes that are quoted or not.
func TestNumbersOfAnyName(t *testing.T) {
	var l []Count
	for i := range 256 {
		l = append(l, Count{string([]byte{byte(i)}), i, 255 - i}, Count{string([]byte{'x', byte(i), 'y'}), 0, i})
		for _, c := range []byte{0, '\t', '\n', ' ', '"', '1', '\\', 'a', 127, 255} {
			l = append(l, Count{string([]byte{byte(i), c}), i, int(c)})
		}
	}
	keepsSums(t, l)
}
