package side

import (
	"fmt"
	"math"
	"selvage/api"
	"slices"
	"strings"
	"testing"
	"time"
)

// scribble writes over a list, and over the room behind it.
func scribble[T any](list []T, with T) {
	list = list[:cap(list)]
	for i := range list {
		list[i] = with
	}
}

// roomy is a list with spare room behind it, all of it filled.
func roomy[T any](list []T, spare T) []T {
	long := append(slices.Clone(list), spare, spare, spare)
	return long[:len(list)]
}

// someChanges are changes that touch, with lines for them, with spare room everywhere.
func someChanges() ([]api.Change, []string, []string) {
	s := script([4]int{0, 1, 0, 0}, [4]int{1, 0, 0, 1}, [4]int{2, 1, 2, 2})
	return roomy(s, api.Change{A: 77}), roomy([]string{"1\n", "2\t\n", "3"}, "spare"), roomy([]string{"x\n", "2\t\n", "y\n", "z\n"}, "spare")
}

// P2: what is handed in stays as it is, the room behind it too, with an error or without.
func TestArgumentsStay(t *testing.T) {
	s, a, b := someChanges()
	all := func() string {
		return fmt.Sprintf("%v %q %q", s[:len(s)+3], a[:len(a)+3], b[:len(b)+3])
	}
	was := all()
	for _, c := range []struct {
		s      []api.Change
		a, b   []string
		width  int
		err    error
		inline error
	}{
		{s, a, b, 13, nil, nil},
		{s, a, b, 6, api.ErrArg, nil},
		{s[:2], a, b, 13, api.ErrEdit, api.ErrEdit},
		{s, a[:2], b, 13, api.ErrEdit, api.ErrEdit},
		{nil, a[:0], b[:0], 13, nil, nil},
		{nil, a[:1], b[:1], 4096, nil, nil},
		{s, append(a[:2:2], ""), b, 13, api.ErrLine, nil},
	} {
		_, err := Print(c.s, c.a, c.b, c.width)
		isErr(t, "Print", err, c.err)
		_, err = Inline(c.s, c.a, c.b)
		isErr(t, "Inline", err, c.inline)
		if got := all(); got != was {
			t.Fatalf("%s, not %s", got, was)
		}
	}
}

// P2: what is told is not changed by what the caller writes into what it handed in, and the next call does not meet what was handed in before.
func TestTextsAreKept(t *testing.T) {
	s, a, b := someChanges()
	printed, err := Print(s, a, b, 30)
	isErr(t, "Print", err, nil)
	told, err := Inline(s, a, b)
	isErr(t, "Inline", err, nil)
	wasPrinted, wasTold := strings.Clone(printed), strings.Clone(told)
	scribble(s, api.Change{A: 66})
	scribble(a, "over")
	scribble(b, "over")
	if printed != wasPrinted || told != wasTold {
		t.Error("the texts have changed")
	}
	s, a, b = someChanges()
	again, err := Print(s, a, b, 30)
	isText(t, "Print again", again, err, wasPrinted)
	again, err = Inline(s, a, b)
	isText(t, "Inline again", again, err, wasTold)
}

// P2: what the caller writes into the pieces that it was given, and into the room behind them, is met by no later call and no other answer.
func TestAnswersAreTheCallers(t *testing.T) {
	for _, s := range []string{"", "a", "a b", "a1 = b;\n", strings.Repeat("x ", 50)} {
		other, want := Words(s), wordsByForm(s)
		for range 3 {
			got := Words(s)
			if !slices.Equal(got, want) {
				t.Errorf("%q, then %q", want, got)
			}
			scribble(got, "over")
			scribble(append(got, "more"), "over")
		}
		if !slices.Equal(other, want) {
			t.Errorf("%q has become %q", want, other)
		}
	}
	// Pieces that are handed on are not written into.
	pieces := roomy(Words("a b c"), "spare")
	was := slices.Clone(pieces[:cap(pieces)][:len(pieces)+3])
	if _, err := Inline(nil, pieces, pieces); err != nil {
		t.Error(err)
	}
	if !slices.Equal(pieces[:len(pieces)+3], was) {
		t.Errorf("%q, not %q", pieces, was)
	}
}

// P2: a list that is nil, and an empty one, are the same.
func TestNilIsEmpty(t *testing.T) {
	goes, comes := script([4]int{0, 1, 0, 0}), script([4]int{0, 0, 0, 1})
	for _, c := range [][2]string{
		{fmt.Sprint(Print(nil, nil, nil, 13)), fmt.Sprint(Print([]api.Change{}, []string{}, []string{}, 13))},
		{fmt.Sprint(Print(goes, []string{"a"}, nil, 13)), fmt.Sprint(Print(goes, []string{"a"}, []string{}, 13))},
		{fmt.Sprint(Print(comes, nil, []string{"a"}, 13)), fmt.Sprint(Print(comes, []string{}, []string{"a"}, 13))},
		{fmt.Sprint(Inline(nil, nil, nil)), fmt.Sprint(Inline([]api.Change{}, []string{}, []string{}))},
		{fmt.Sprint(Inline(goes, []string{"a"}, nil)), fmt.Sprint(Inline(goes, []string{"a"}, []string{}))},
	} {
		if c[0] != c[1] {
			t.Error(c)
		}
	}
}

// P2: answers hang on the arguments alone: at the same time, too.
func TestCallsStandAlone(t *testing.T) {
	s, a, b := someChanges()
	text := "a1 = b;\n\tc"
	all := func() string {
		cut, taken := Cut(text, 3, 20)
		half, second, err := Columns(80)
		printed, bad := Print(s, a, b, 40)
		told, worse := Inline(s, a, b)
		return fmt.Sprintf("%q %d %d %d %v %q %v %q %v %q", cut, taken, half, second, err, printed, bad, told, worse, Words(text))
	}
	want := all()
	done := make(chan string)
	for range 8 {
		go func() {
			for range 200 {
				if got := all(); got != want {
					done <- got
					return
				}
			}
			done <- ""
		}()
	}
	for range 8 {
		if fault := <-done; fault != "" {
			t.Error("at the same time:", fault)
		}
	}
}

// P1: no call panics, whatever it is given, and each error is one of those that the chapter names, with nothing beside it.
func TestNothingPanics(t *testing.T) {
	numbers := []int{math.MinInt, -1, 0, 0, 1, 1, 2, 3, math.MaxInt}
	widths := []int{math.MinInt, -1, 0, 6, 7, 8, 13, 80, 4096, 4097, math.MaxInt}
	texts := []string{"", "a", "a\n", "\tb\n", "\n", "\n\n", "a\nb", " \t\n"}
	next := steps(5)
	number := func() int { return numbers[next.below(len(numbers))] }
	someLines := func() []string {
		var l []string
		for range next.below(4) {
			l = append(l, texts[next.below(len(texts))])
		}
		return l
	}
	for range 200000 {
		var s []api.Change
		for range next.below(3) {
			s = append(s, api.Change{A: number(), N: number(), B: number(), M: number()})
		}
		a, b, width := someLines(), someLines(), widths[next.below(len(widths))]
		text, err := Print(s, a, b, width)
		if err != nil && (text != "" || err != api.ErrArg && err != api.ErrEdit && err != api.ErrLine) || err == nil && (text == "") != (len(a)+len(b) == 0) {
			t.Fatalf("Print(%v, %q, %q, %d): %q, %v", s, a, b, width, text, err)
		}
		text, err = Inline(s, a, b)
		if err != nil && (text != "" || err != api.ErrEdit) {
			t.Fatalf("Inline(%v, %q, %q): %q, %v", s, a, b, text, err)
		}
		line := texts[next.below(len(texts))]
		text, taken := Cut(line, number(), width)
		if taken != len(text) || taken > max(width, 0) {
			t.Fatalf("Cut(%q, .., %d): %q, %d", line, width, text, taken)
		}
	}
}

// soon fails where a call takes long.
func soon(t *testing.T, what string, call func()) {
	t.Helper()
	done := make(chan struct{})
	go func() {
		defer close(done)
		call()
	}()
	select {
	case <-done:
	case <-time.After(30 * time.Second):
		t.Fatal(what, "takes too long")
	}
}

// P1: many lines, long lines, many changes and many pieces are told soon.
func TestLongOnesEndSoon(t *testing.T) {
	soon(t, "as many lines as may be", func() {
		l := slices.Repeat([]string{"a\n"}, api.MaxBytes)
		text, err := Print(nil, l, l, 7)
		isText(t, "lines that stay", text[:7], err, "a    a\n")
		if len(text) != 7*len(l) {
			t.Error(len(text))
		}
		text, err = Print(script([4]int{0, len(l), 0, 0}), l, nil, 7)
		if err != nil || len(text) != 5*len(l) {
			t.Error(len(text), err)
		}
	})
	soon(t, "many changes", func() {
		const n = 500000
		a, b := slices.Repeat([]string{"x\n", "z\n"}, n), slices.Repeat([]string{"y\n", "z\n"}, n)
		var s []api.Change
		for i := range n {
			s = append(s, api.Change{A: 2 * i, N: 1, B: 2 * i, M: 1})
		}
		text, err := Print(s, a, b, 7)
		isText(t, "changes", text, err, strings.Repeat("x  | y\nz    z\n", n))
		text, err = Inline(s, a, b)
		isText(t, "changes in one text", text, err, strings.Repeat("[-x\n-]{+y\n+}z\n", n))
	})
	soon(t, "a long line many times", func() {
		l := slices.Repeat([]string{strings.Repeat("\tx", api.MaxBytes/2-1) + "\n"}, 100)
		if _, err := Print(nil, l, slices.Clone(l), 4096); err != nil {
			t.Error(err)
		}
	})
	soon(t, "many pieces", func() {
		s := strings.Repeat("a .", api.MaxBytes/3)
		pieces := Words(s)
		if len(pieces) != len(s) {
			t.Error(len(pieces))
		}
		if one := Words(strings.Repeat("a", api.MaxBytes)); len(one) != 1 {
			t.Error(len(one))
		}
	})
}
