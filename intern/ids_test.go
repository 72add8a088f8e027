package intern

import (
	"errors"
	"math/bits"
	"selvage/api"
	"slices"
	"testing"
)

// refIds numbers by IN2's words: a key's number is its place among the keys, each taken where it comes first.
func refIds(a, b []string, equal int) ([]int, []int) {
	var keys []string
	number := func(l []string) []int {
		var ids []int
		for _, line := range l {
			key := refKey(line, equal)
			if !slices.Contains(keys, key) {
				keys = append(keys, key)
			}
			ids = append(ids, slices.Index(keys, key))
		}
		return ids
	}
	ofA := number(a)
	return ofA, number(b)
}

// numbersOf holds which numbers two lists have.
func numbersOf(t *testing.T, a, b []string, equal int, wantA, wantB []int) {
	t.Helper()
	gotA, gotB, err := Ids(a, b, equal)
	if err != nil || !slices.Equal(gotA, wantA) || !slices.Equal(gotB, wantB) {
		t.Errorf("Ids(%q, %q, %d) = %v, %v, %v, not %v, %v", a, b, equal, gotA, gotB, err, wantA, wantB)
	}
}

// IN2: ordinary lists, and which numbers are given in which order.
func TestIds(t *testing.T) {
	for _, c := range []struct {
		a, b         []string
		equal        int
		wantA, wantB []int
	}{
		{[]string{"x\n", "y\n"}, []string{"y\n", "x"}, 0, []int{0, 1}, []int{1, 2}}, // the chapter's example
		{[]string{"a\n", "b\n", "a\n", "c\n"}, []string{"c\n", "d\n", "a\n", "e\n", "d\n"}, 0, []int{0, 1, 0, 2}, []int{2, 3, 0, 4, 3}},
		{[]string{"z", "y", "x"}, []string{"x", "y", "z"}, 0, []int{0, 1, 2}, []int{2, 1, 0}},
		// empty lists, and nil
		{nil, nil, 0, nil, nil},
		{[]string{}, []string{}, 15, nil, nil},
		{nil, []string{"a", "b", "a"}, 0, nil, []int{0, 1, 0}},
		{[]string{"a", "b", "a"}, nil, 0, []int{0, 1, 0}, nil},
		{[]string{}, []string{"b"}, 3, nil, []int{0}},
		// strings that come first in b
		{[]string{"m"}, []string{"a", "m", "b", "a"}, 0, []int{0}, []int{1, 0, 2, 1}},
		{[]string{"q", "q"}, []string{"r", "s", "q"}, 0, []int{0, 0}, []int{1, 2, 0}},
		{[]string{"B"}, []string{"a", "b", "A"}, 1, []int{0}, []int{1, 0, 1}},
		// the empty string, an end alone, lines with and without one
		{[]string{"", "\n", "a", "a\n"}, []string{"a\n", "a", "\n", ""}, 0, []int{0, 1, 2, 3}, []int{3, 2, 1, 0}},
		{[]string{"", "\n", "a", "a\n"}, []string{"a\n", "a", "\n", ""}, 15, []int{0, 1, 2, 3}, []int{3, 2, 1, 0}},
		{[]string{" ", " \n", "A ", "A\t\n"}, []string{"a\n", "a", "\n", ""}, 15, []int{0, 1, 2, 3}, []int{3, 2, 1, 0}},
		// one key by some ways and not by others
		{[]string{"a b\n", "a  b\n", "ab\n", "a b \n", "A b\n"}, []string{"a\tb\n"}, 0, []int{0, 1, 2, 3, 4}, []int{5}},
		{[]string{"a b\n", "a  b\n", "ab\n", "a b \n", "A b\n"}, []string{"a\tb\n"}, 1, []int{0, 1, 2, 3, 0}, []int{4}},
		{[]string{"a b\n", "a  b\n", "ab\n", "a b \n", "A b\n"}, []string{"a\tb\n"}, 2, []int{0, 0, 0, 0, 1}, []int{0}},
		{[]string{"a b\n", "a  b\n", "ab\n", "a b \n", "A b\n"}, []string{"a\tb\n"}, 3, []int{0, 0, 0, 0, 0}, []int{0}},
		{[]string{"a b\n", "a  b\n", "ab\n", "a b \n", "A b\n"}, []string{"a\tb\n"}, 4, []int{0, 0, 1, 0, 2}, []int{0}},
		{[]string{"a b\n", "a  b\n", "ab\n", "a b \n", "A b\n"}, []string{"a\tb\n"}, 5, []int{0, 0, 1, 0, 0}, []int{0}},
		{[]string{"a b\n", "a  b\n", "ab\n", "a b \n", "A b\n"}, []string{"a\tb\n"}, 6, []int{0, 0, 0, 0, 1}, []int{0}},
		{[]string{"a b\n", "a  b\n", "ab\n", "a b \n", "A b\n"}, []string{"a\tb\n"}, 8, []int{0, 1, 2, 0, 3}, []int{4}},
		{[]string{"a b\n", "a  b\n", "ab\n", "a b \n", "A b\n"}, []string{"a\tb\n"}, 9, []int{0, 1, 2, 0, 0}, []int{3}},
		{[]string{"a b\n", "a  b\n", "ab\n", "a b \n", "A b\n"}, []string{"a\tb\n"}, 12, []int{0, 0, 1, 0, 2}, []int{0}},
		{[]string{"a b\n", "a  b\n", "ab\n", "a b \n", "A b\n"}, []string{"a\tb\n"}, 13, []int{0, 0, 1, 0, 0}, []int{0}},
		{[]string{"a b\n", "a  b\n", "ab\n", "a b \n", "A b\n"}, []string{"a\tb\n"}, 14, []int{0, 0, 0, 0, 1}, []int{0}},
		// strings that are no lines
		{[]string{"a\nb", "a \nb", "a\n\n"}, []string{"a\n \n", "a\nB"}, 8, []int{0, 1, 2}, []int{2, 3}},
		{[]string{"\xc3", "\xe3", "\x00"}, []string{"\ufffd", "\xc3", ""}, 15, []int{0, 1, 2}, []int{3, 0, 4}},
	} {
		numbersOf(t, c.a, c.b, c.equal, c.wantA, c.wantB)
	}
}

// IN2: numbers of all pairs of short lists by every sum of ways, against the plain reference.
func TestIdsOfShortLists(t *testing.T) {
	strings := []string{"a", "A", "a ", "a\n", " a\t\n", "b"}
	lists := [][]string{nil}
	for from, most := 0, 3; most > 0; most-- {
		longest := lists[from:]
		from = len(lists)
		for _, l := range longest {
			for _, s := range strings {
				lists = append(lists, append(slices.Clone(l), s))
			}
		}
	}
	for i, a := range lists {
		for j, b := range lists {
			equal := (i + 3*j) % 16
			wantA, wantB := refIds(a, b, equal)
			numbersOf(t, a, b, equal, wantA, wantB)
		}
	}
}

// IN2: of a longer list with itself, and with another, by every sum of ways; numbers are those of keys, as Key tells them.
func TestIdsAndKeys(t *testing.T) {
	all := smallTexts([]string{"a", "A", " ", "\t", "\n"}, 4)
	other := slices.Clone(all)
	slices.Reverse(other)
	for equal := range 16 {
		wantA, _ := refIds(all, nil, equal)
		numbersOf(t, all, all, equal, wantA, wantA)
		wantA, wantB := refIds(all[:300], other, equal)
		numbersOf(t, all[:300], other, equal, wantA, wantB)
		ids, _, _ := Ids(all, nil, equal)
		for i, a := range all {
			for j, b := range all[:100] {
				if (ids[i] == ids[j]) != (Key(a, equal) == Key(b, equal)) {
					t.Fatalf("by %d the numbers of %q and %q are not those of their keys", equal, a, b)
				}
			}
		}
	}
}

// IN2: ErrArg of what is no sum of ways, whatever the lists, and nothing beside it.
func TestIdsOfOddWays(t *testing.T) {
	for _, equal := range oddWays() {
		for _, l := range [][]string{nil, {}, {"a"}, {"a\n", "a\n", "b"}} {
			a, b, err := Ids(l, l, equal)
			if !errors.Is(err, api.ErrArg) || len(a) > 0 || len(b) > 0 {
				t.Errorf("Ids(%q, .., %d) = %v, %v, %v", l, equal, a, b, err)
			}
		}
	}
	for equal := range 16 {
		if _, _, err := Ids([]string{"a"}, nil, equal); err != nil {
			t.Errorf("Ids by %d: %v", equal, err)
		}
	}
}

// IN4: by 0 strings are told apart just as they are.
func TestIdsApart(t *testing.T) {
	all := append(someTexts(), everyByte())
	ids, again, err := Ids(all, all, 0)
	if err != nil || !slices.Equal(ids, again) {
		t.Fatal("a list with itself has unlike numbers by 0", err)
	}
	for i, id := range ids {
		if id != i {
			t.Fatalf("%q counts as equal to %q", all[i], all[id])
		}
	}
}

// within are sums of ways of which the second counts as equal all that the first does.
func within() [][2]int {
	pairs := [][2]int{
		{api.EqualTail, api.EqualAmount}, {api.EqualAmount, api.EqualAll}, {api.EqualTail, api.EqualAll},
		{api.EqualTail + api.EqualCase, api.EqualAmount + api.EqualCase}, {api.EqualAmount + api.EqualCase, api.EqualAll + api.EqualCase}, {api.EqualTail + api.EqualCase, api.EqualAll + api.EqualCase},
		{api.EqualTail, api.EqualAmount + api.EqualCase}, {api.EqualAmount + api.EqualTail, api.EqualAmount}, {api.EqualAmount + api.EqualTail, api.EqualAll}, {api.EqualAll + api.EqualAmount + api.EqualTail, api.EqualAll},
	}
	for less := range 16 {
		for more := range 16 {
			if less&more == less {
				pairs = append(pairs, [2]int{less, more})
			}
		}
	}
	return pairs
}

// IN4: what counts as equal with a sum of ways, counts as equal with more of them.
func TestMoreWays(t *testing.T) {
	all := append(someTexts(), smallTexts([]string{"x", " ", "\t", "\v", "\n"}, 5)...)
	var ids [16][]int
	for equal := range 16 {
		ids[equal], _, _ = Ids(all, nil, equal)
	}
	for _, p := range within() {
		less, more := ids[p[0]], ids[p[1]]
		first := make([]int, len(all)) // by the number of less: the string that had it first
		met := 0
		for i, id := range less {
			if id == met {
				first[id] = i
				met++
			}
			if more[i] != more[first[id]] {
				t.Fatalf("%q and %q count as equal by %d and not by %d", all[i], all[first[id]], p[0], p[1])
			}
		}
	}
}

// IN4: each way counts something as equal that none of the narrower sums does.
func TestEachWayCounts(t *testing.T) {
	same := func(a, b string, equal int) bool {
		ids, more, _ := Ids([]string{a}, []string{b}, equal)
		return ids[0] == more[0]
	}
	for equal := range 16 {
		for pair, ways := range map[[2]string]int{
			{"A\n", "a\n"}:       api.EqualCase,
			{"a b\n", "ab\n"}:    api.EqualAll,
			{" a\n", "a\n"}:      api.EqualAll,
			{"a b\n", "a  b\n"}:  api.EqualAll + api.EqualAmount,
			{"a b\n", "a\tb\n"}:  api.EqualAll + api.EqualAmount,
			{"a \n", "a\n"}:      api.EqualAll + api.EqualAmount + api.EqualTail,
			{"a \t", "a"}:        api.EqualAll + api.EqualAmount + api.EqualTail,
			{" \n", "\n"}:        api.EqualAll + api.EqualAmount + api.EqualTail,
			{"a\n", "a"}:         0,
			{"a\n", "b\n"}:       0,
			{"a\nb", "a b"}:      0,
			{"a\nb", "ab"}:       0,
			{"\u00c4", "\u00e4"}: 0,
			{"@", "`"}:           0,
			{"[", "{"}:           0,
		} {
			if got := same(pair[0], pair[1], equal); got != (equal&ways != 0) {
				t.Errorf("%q and %q by %d: %v", pair[0], pair[1], equal, got)
			}
		}
	}
	if n := bits.OnesCount(everyWay); n != 4 || everyWay != 15 {
		t.Errorf("%d ways, %d in all", n, everyWay)
	}
}

// P2: the lists handed in are as they were, and the room behind them too.
func TestListsStay(t *testing.T) {
	a := []string{"A \n", "b\n", "A\n", "spare", "room"}
	b := []string{" b\n", "a\n", "c", "more", "room"}
	for equal := range 16 {
		roomA, roomB := slices.Clone(a), slices.Clone(b)
		if _, _, err := Ids(roomA[:3], roomB[:3], equal); err != nil {
			t.Fatal(err)
		}
		if _, _, err := Ids(roomA[:2], roomA[1:3], equal); err != nil {
			t.Fatal(err)
		}
		if !slices.Equal(roomA, a) || !slices.Equal(roomB, b) {
			t.Errorf("by %d the lists became %q, %q", equal, roomA, roomB)
		}
	}
}

// filled writes into a list of numbers and into its spare room.
func filled(l []int) {
	l = l[:cap(l)]
	for i := range l {
		l[i] = -7
	}
}

// P2: the two lists of an answer share nothing, and what is written into them, spare room too, is met by no later call.
func TestNumbersAreNewMemory(t *testing.T) {
	a, b := []string{"a\n", "b\n", "a\n"}, []string{"b\n", "c\n"}
	for range 3 {
		for _, equal := range []int{0, 15} {
			gotA, gotB, _ := Ids(a, b, equal)
			earlierA, earlierB, _ := Ids(a, b, equal)
			filled(gotA)
			if !slices.Equal(gotB, []int{1, 2}) {
				t.Errorf("numbers of b became %v with those of a", gotB)
			}
			filled(gotB)
			if !slices.Equal(gotA, []int{-7, -7, -7}) || !slices.Equal(earlierA, []int{0, 1, 0}) || !slices.Equal(earlierB, []int{1, 2}) {
				t.Errorf("an earlier answer became %v, %v", earlierA, earlierB)
			}
			numbersOf(t, a, b, equal, []int{0, 1, 0}, []int{1, 2})
			own, again, _ := Ids(a, a, equal)
			filled(own)
			if !slices.Equal(again, []int{0, 1, 0}) {
				t.Errorf("numbers of a list with itself share memory: %v", again)
			}
		}
	}
}

// P2: answers hang on arguments alone: calls in between, and lists written to later, change nothing.
func TestCallsStandAlone(t *testing.T) {
	a, b := []string{"x \n", "Y\n"}, []string{"y\n", "x\n"}
	for range 2 {
		numbersOf(t, a, b, 0, []int{0, 1}, []int{2, 3})
		numbersOf(t, b, a, 0, []int{0, 1}, []int{2, 3})
		numbersOf(t, a, b, 9, []int{0, 1}, []int{1, 0})
		numbersOf(t, []string{"new"}, nil, 0, []int{0}, nil)
		if _, _, err := Ids(a, b, 16); err == nil {
			t.Error("16 is no sum of ways")
		}
		if Key("A \n", 9) != "a\n" || Key("A \n", 0) != "A \n" || Blank("A") || !Blank(" ") {
			t.Error("Key or Blank has changed")
		}
	}
	ids, _, _ := Ids(a, b, 0)
	a[0], a[1] = "q", "q"
	if !slices.Equal(ids, []int{0, 1}) {
		t.Errorf("the numbers went with the list: %v", ids)
	}
	numbersOf(t, a, b, 0, []int{0, 0}, []int{1, 2})
}
