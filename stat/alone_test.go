package stat

import (
	"fmt"
	"math"
	"selvage/api"
	"slices"
	"strings"
	"testing"
	"time"
)

// scribble writes over a list, and over the room behind it.
func scribble[T any](list []T, with T) {
	list = list[:cap(list)]
	for i := range list {
		list[i] = with
	}
}

// roomy is a list with spare room behind it, all of it filled.
func roomy[T any](list []T, spare T) []T {
	long := append(slices.Clone(list), spare, spare, spare)
	return long[:len(list)]
}

// spare is a count that no list has.
var spare = Count{"spare", 77, 88}

// someHunks are hunks with spare room behind them, and behind their rows.
func someHunks() []api.Hunk {
	one, two := hunk(1, 1, " 1\n", "-2\n", "+x\n"), hunk(5, 5, "-5\n", "-6\n")
	one.Rows = roomy(one.Rows, api.Row{Kind: api.RowNew, Text: "spare\n"})
	two.Rows = roomy(two.Rows, api.Row{Kind: api.RowNew, Text: "spare\n"})
	return roomy([]api.Hunk{one, two}, hunk(9, 9, "+spare\n"))
}

// someCounts are counts with spare room behind them, one name of them twice.
func someCounts() []Count {
	return roomy([]Count{{"a", 3, 2}, {"b c", 0, 1}, {"a", 40, 50}, {"", 0, 0}}, spare)
}

// P2: what is handed in stays as it is, the room behind it too, with an error or without.
func TestArgumentsStay(t *testing.T) {
	for _, bad := range []bool{false, true} {
		l, h := someCounts(), someHunks()
		var wantArg, wantHunk error
		if bad {
			l[3].Adds, h[1].N = -1, 9
			wantArg, wantHunk = api.ErrArg, api.ErrHunk
		}
		all := func() string {
			rows := ""
			for _, one := range h[:len(h)+3] {
				rows += fmt.Sprint(one, one.Rows[:cap(one.Rows)])
			}
			return fmt.Sprint(l[:len(l)+3], rows)
		}
		was := all()
		_, err := Of("f", h)
		isErr(t, "Of", err, wantHunk)
		_, err = Total(l)
		isErr(t, "Total", err, wantArg)
		_, err = Table(l, 40)
		isErr(t, "Table", err, wantArg)
		_, err = Table(l, -1)
		isErr(t, "Table", err, api.ErrArg)
		_, err = Sum(l)
		isErr(t, "Sum", err, wantArg)
		_, err = Numbers(l)
		isErr(t, "Numbers", err, wantArg)
		if got := all(); got != was {
			t.Fatalf("%s, not %s", got, was)
		}
	}
}

// P2: what the caller writes into what it was given, and into the room behind it, is met by no later call, no other answer and no argument.
func TestAnswersAreTheCallers(t *testing.T) {
	for _, l := range [][]Count{nil, {{"a", 1, 2}}, {{"a", 1, 2}, {"b", 0, 0}, {"c", 1, 1}}, someCounts(), slices.Repeat(someCounts(), 50)} {
		was := slices.Clone(l)
		want := sumByWords(l)
		other, err := Sum(l)
		isErr(t, "Sum", err, nil)
		for range 3 {
			got, err := Sum(l)
			if err != nil || !slices.Equal(got, want) {
				t.Errorf("%v, then %v, %v", want, got, err)
			}
			scribble(got, spare)
			scribble(append(got, spare), spare)
		}
		if !slices.Equal(other, want) || !slices.Equal(l, was) {
			t.Errorf("%v has become %v, %v", want, other, l)
		}
		// what is handed on to the next call is as it was
		again, err := Sum(other)
		isErr(t, "Sum again", err, nil)
		scribble(again, spare)
		if !slices.Equal(other, want) {
			t.Errorf("%v has become %v", want, other)
		}
	}
}

// P2: what was told is not changed by what the caller writes into what it handed in, and the next call does not meet what was handed in before.
func TestTextsAreKept(t *testing.T) {
	l, h := someCounts(), someHunks()
	told := func() string {
		c, errOf := Of("f", h)
		total, errTotal := Total(l)
		table, errTable := Table(l, 40)
		numbers, errNumbers := Numbers(l)
		sums, errSum := Sum(l)
		return fmt.Sprint(c, errOf, total, errTotal, table, errTable, numbers, errNumbers, sums, errSum)
	}
	sums, err := Sum(l)
	isErr(t, "Sum", err, nil)
	first, wasSums := told(), slices.Clone(sums)
	scribble(l, spare)
	scribble(h, api.Hunk{})
	if !slices.Equal(sums, wasSums) {
		t.Errorf("%v has become %v", wasSums, sums)
	}
	if told() == first {
		t.Error("what was handed in before is told again")
	}
	l, h = someCounts(), someHunks()
	if again := told(); again != first {
		t.Errorf("%q, then %q", first, again)
	}
}

// P2: a list that is nil, and an empty one, are the same.
func TestNilIsEmpty(t *testing.T) {
	for _, c := range [][2]string{
		{fmt.Sprint(Of("f", nil)), fmt.Sprint(Of("f", []api.Hunk{}))},
		{fmt.Sprint(Total(nil)), fmt.Sprint(Total([]Count{}))},
		{fmt.Sprint(Table(nil, 80)), fmt.Sprint(Table([]Count{}, 80))},
		{fmt.Sprint(Table(nil, -1)), fmt.Sprint(Table([]Count{}, -1))},
		{fmt.Sprint(Sum(nil)), fmt.Sprint(Sum([]Count{}))},
		{fmt.Sprint(Numbers(nil)), fmt.Sprint(Numbers([]Count{}))},
	} {
		if c[0] != c[1] {
			t.Error(c)
		}
	}
}

// P2: answers hang on the arguments alone: at the same time, too.
func TestCallsStandAlone(t *testing.T) {
	l, h := someCounts(), someHunks()
	all := func() string {
		plus, minus := Bar(100, 1, 10, 101)
		return fmt.Sprint(plus, minus) + fmt.Sprint(Of("f", h)) + fmt.Sprint(Total(l)) + fmt.Sprint(Table(l, 40)) + fmt.Sprint(Sum(l)) + fmt.Sprint(Numbers(l))
	}
	want := all()
	done := make(chan string)
	for range 8 {
		go func() {
			for range 200 {
				if got := all(); got != want {
					done <- got
					return
				}
			}
			done <- ""
		}()
	}
	for range 8 {
		if fault := <-done; fault != "" {
			t.Error("at the same time:", fault)
		}
	}
}

// P1: no call panics, whatever it is given, and each error is the one that the chapter names, with nothing beside it.
func TestNothingPanics(t *testing.T) {
	numbers := []int{math.MinInt, math.MinInt + 1, -1, 0, 0, 0, 1, 1, 2, 3, 100, api.MaxNumber - 1, api.MaxNumber, api.MaxNumber + 1, 2 * api.MaxNumber, 2*api.MaxNumber + 1, math.MaxInt}
	texts := []string{"", "a", "a\n", "\n\n", "a\nb"}
	next := steps(5)
	number := func() int { return numbers[next.below(len(numbers))] }
	for range 200000 {
		var l []Count
		for range next.below(4) {
			l = append(l, Count{texts[next.below(len(texts))], number(), number()})
		}
		width := number()
		table, errTable := Table(l, width)
		total, errTotal := Total(l)
		told, errNumbers := Numbers(l)
		sums, errSum := Sum(l)
		for _, err := range []error{errTable, errTotal, errNumbers, errSum} {
			if err != nil && err != api.ErrArg {
				t.Fatalf("%v, %d: %v", l, width, err)
			}
		}
		if errTable != nil && table != "" || errTotal != nil && total != "" || errNumbers != nil && told != "" || errSum != nil && sums != nil {
			t.Fatalf("%v, %d: %q, %q, %q, %v beside an error", l, width, table, total, told, sums)
		}
		h := api.Hunk{A: number(), N: number(), B: number(), M: number(), Head: texts[next.below(len(texts))]}
		for range next.below(4) {
			h.Rows = append(h.Rows, api.Row{Kind: next.below(5), Text: texts[next.below(len(texts))]})
		}
		if c, err := Of("f", []api.Hunk{h}); err != nil && (c != (Count{}) || err != api.ErrHunk) {
			t.Fatalf("Of(%v): %v, %v", h, c, err)
		}
		plus, minus := Bar(number(), number(), width, number())
		if plus < 0 || minus < 0 || plus+minus > max(width, 0) {
			t.Fatalf("Bar of the width %d: %d, %d", width, plus, minus)
		}
	}
}

// soon fails where a call takes long.
func soon(t *testing.T, what string, call func()) {
	t.Helper()
	done := make(chan struct{})
	go func() {
		defer close(done)
		call()
	}()
	select {
	case <-done:
	case <-time.After(30 * time.Second):
		t.Fatal(what, "takes too long")
	}
}

// P1: many hunks, many rows, many counts and long names are told soon.
func TestLongOnesEndSoon(t *testing.T) {
	soon(t, "many rows", func() {
		h := hunk(1, 1, slices.Repeat([]string{"-x\n", "+y\n", " z\n"}, 1<<18)...)
		isOf(t, "f", []api.Hunk{h, h, h}, 3<<18, 3<<18)
	})
	soon(t, "many hunks", func() {
		isOf(t, "f", slices.Repeat([]api.Hunk{hunk(1, 1, "-x\n", "+y\n")}, 1<<18), 1<<18, 1<<18)
	})
	soon(t, "many names", func() {
		var l []Count
		for i := range api.MaxNodes {
			l = append(l, Count{fmt.Sprint("f", i), 1, i % 5})
		}
		isSum(t, l, l...)
		table, err := Table(l, api.MaxName*4)
		if err != nil || strings.Count(table, "\n") != len(l)+1 {
			t.Error(strings.Count(table, "\n"), err)
		}
		told, err := Numbers(l)
		if err != nil || strings.Count(told, "\n") != len(l) {
			t.Error(strings.Count(told, "\n"), err)
		}
	})
	soon(t, "long names", func() {
		l := slices.Repeat([]Count{{strings.Repeat("\xff", api.MaxBytes/16), 1, 1}}, 50)
		isSum(t, l, Count{l[0].Name, 50, 50})
		table, err := Table(l, 80)
		if err != nil || len(table) < 50*api.MaxBytes/4 {
			t.Error(len(table), err)
		}
	})
}
