package scan

import (
	"fmt"
	"math"
	"selvage/api"
	"slices"
	"strings"
	"testing"
	"time"
)

// scribble writes over a list, and over the room behind it.
func scribble[T any](list []T, with T) {
	list = list[:cap(list)]
	for i := range list {
		list[i] = with
	}
}

// P2: what the caller writes into what it was given, and into the room behind it, is met by no later call and no other answer.
func TestAnswersAreTheCallers(t *testing.T) {
	next := steps(9)
	for range 2000 {
		a, b := someTexts(&next)
		most := next.below(6) - 1
		want := toldByWords(a, b, most)
		all, runs := All(a, b, most), Runs(a, b, most)
		for range 3 {
			if got := told(a, b, most); got != want {
				t.Fatalf("%q, %q, %d: %s, not %s", a, b, most, got, want)
			}
			otherAll, otherRuns := All(a, b, most), Runs(a, b, most)
			scribble(otherAll, Unlike{6, 6, 6, 6})
			scribble(append(otherAll, Unlike{}), Unlike{7, 7, 7, 7})
			scribble(otherRuns, Span{6, 6})
			scribble(append(otherRuns, Span{}), Span{7, 7})
		}
		isAll(t, a, b, most, all...)
		isRuns(t, a, b, most, runs...)
	}
}

// P2: texts that share their bytes, and the same text twice, are texts as any.
func TestTextsThatShare(t *testing.T) {
	long := strings.Repeat("ab\n", 20)
	for from := range 7 {
		for to := range 7 {
			a, b := long[from:], long[:len(long)-to]
			if got, want := told(a, b, -1), toldByWords(strings.Clone(a), strings.Clone(b), -1); got != want {
				t.Errorf("%q, %q: %s, not %s", a, b, got, want)
			}
		}
	}
}

// P2: answers hang on the arguments alone: at the same time, too.
func TestCallsStandAlone(t *testing.T) {
	all := func() string {
		text := ""
		next := steps(2)
		for range 50 {
			a, b := someTexts(&next)
			text += told(a, b, next.below(6)-1) + Show(next.below(1000)-500)
		}
		return text
	}
	want := all()
	done := make(chan string)
	for range 8 {
		go func() {
			for range 20 {
				if got := all(); got != want {
					done <- got
					return
				}
			}
			done <- ""
		}()
	}
	for range 8 {
		if fault := <-done; fault != "" {
			t.Error("at the same time:", fault)
		}
	}
}

// P1: no call panics, whatever it is given, and each answers what the words say.
func TestNothingPanics(t *testing.T) {
	numbers := []int{math.MinInt, math.MinInt + 1, math.MinInt32, -2, -1, 0, 1, 2, 3, 255, 256, api.MaxNumber, api.MaxNumber + 1, math.MaxInt - 1, math.MaxInt}
	next := steps(5)
	for range 30000 {
		a, b := someTexts(&next)
		c := numbers[next.below(len(numbers))]
		if got, want := told(a, b, c), toldByWords(a, b, c); got != want {
			t.Fatalf("%q, %q, %d: %s, not %s", a, b, c, got, want)
		}
		c += next.below(3)
		isShow(t, c, showByWords(c))
	}
}

// soon fails where a call takes long.
func soon(t *testing.T, what string, call func()) {
	t.Helper()
	done := make(chan struct{})
	go func() {
		defer close(done)
		call()
	}()
	select {
	case <-done:
	case <-time.After(30 * time.Second):
		t.Fatal(what, "takes too long")
	}
}

// P1: the longest texts are told soon, with every byte unlike, every second one, or none.
func TestLongTexts(t *testing.T) {
	const n = api.MaxBytes
	same, other := strings.Repeat("a\n", n/2), strings.Repeat("b\n", n/2)
	ends := strings.Repeat("\n", n)
	soon(t, "texts that are alike", func() {
		isFirst(t, same, strings.Clone(same), Unlike{}, 0)
		isAll(t, same, strings.Clone(same), -1)
		isRuns(t, same, strings.Clone(same), -1)
	})
	soon(t, "every second byte", func() {
		all, runs := All(same, other, -1), Runs(same, other, -1)
		if len(all) != n/2 || all[n/2-1] != (Unlike{n - 1, n / 2, 'a', 'b'}) {
			t.Error(len(all), all[len(all)-1])
		}
		if len(runs) != n/2 || runs[n/2-1] != (Span{n - 1, 1}) {
			t.Error(len(runs), runs[len(runs)-1])
		}
	})
	soon(t, "every byte", func() {
		all := All(ends, strings.Repeat("x", n), math.MaxInt)
		if len(all) != n || all[n-1] != (Unlike{n, n, '\n', 'x'}) {
			t.Error(len(all), all[len(all)-1])
		}
		isRuns(t, ends, strings.Repeat("x", n), 1, Span{1, n})
	})
}

// P1: what lies behind the places that are asked for is not looked at.
func TestFewOfMany(t *testing.T) {
	a, b := strings.Repeat("a\n", api.MaxBytes/2), strings.Repeat("b\n", api.MaxBytes/2)
	c := "x" + a[1:]
	soon(t, "few of many", func() {
		for range 100000 {
			isFirst(t, a, b, Unlike{1, 1, 'a', 'b'}, 0)
			isAll(t, a, b, 0)
			isAll(t, a, b, 1, Unlike{1, 1, 'a', 'b'})
			isRuns(t, a, b, 0)
			isRuns(t, a, b, 1, Span{1, 1})
			isFirst(t, a, c, Unlike{1, 1, 'a', 'x'}, 0)
			isAll(t, a, c, 0)
			isAll(t, a, c, 1, Unlike{1, 1, 'a', 'x'})
		}
	})
}

// P2: no places, and no runs, are a list that is empty, whatever is asked for.
func TestNoPlaces(t *testing.T) {
	for _, most := range []int{math.MinInt, -1, 0, 1, math.MaxInt} {
		if got := fmt.Sprint(All("ab", "abc", most), Runs("ab", "abc", most)); got != "[] []" {
			t.Error(most, got)
		}
	}
	if l := slices.Concat(All("a", "b", 0), All("", "", -1)); len(l) != 0 {
		t.Error(l)
	}
}
