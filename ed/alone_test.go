package ed

import (
	"fmt"
	"math"
	"selvage/api"
	"selvage/lines"
	"slices"
	"strings"
	"testing"
	"time"
)

// scribble writes over a list, and over the room behind it.
func scribble[T any](list []T, with T) {
	list = list[:cap(list)]
	for i := range list {
		list[i] = with
	}
}

// roomy is a list with spare room behind it, all of it filled.
func roomy[T any](list []T, spare T) []T {
	long := append(slices.Clone(list), spare, spare, spare)
	return long[:len(list)]
}

// someChanges are changes that touch, with lines for them, with spare room everywhere.
func someChanges() ([]api.Change, []string, []string) {
	s := script([][4]int{{0, 1, 0, 0}, {1, 0, 0, 1}, {2, 1, 2, 3}})
	return roomy(s, api.Change{A: 77}), roomy([]string{"1\n", "2\n", "3\n"}, "spare"), roomy([]string{"x\n", "2\n", "y\n", ".\n", "z\n"}, "spare")
}

// someTexts are texts of commands for Run and for Patch, some of them with faults.
func someTexts() []string {
	return []string{
		"", "w\n", "q\n", "1d\n", "1,3d\n", "0a\nx\n.\n", "2c\nx\ny\n.\n", "$i\n.\n", "1s/.//\n", "2a\nx\n.\ns/.//\n1d\n", "$a\nx\n.\n3,$c\ny\n.\n", "9d\n", "1a\n", "=\n", "1d", "1s/.//\ns/.//\n",
		"d1 1\n", "d1 3\n", "a0 1\nx\n", "a3 2\nx\ny\n", "d2 1\na2 1\nx\n", "d1 1\na2 1\nx\nd3 1\n", "d9 1\n", "a1 1\n", "d1 1",
	}
}

// P2: what is handed in stays as it is, the room behind it too, with an error or without.
func TestArgumentsStay(t *testing.T) {
	s, a, b := someChanges()
	all := func() string { return fmt.Sprintf("%v %q %q", s[:cap(s)], a[:cap(a)], b[:cap(b)]) }
	was := all()
	for name, call := range printers() {
		for _, c := range []struct {
			s    []api.Change
			a, b []string
			err  error
		}{{s, a, b, nil}, {s[:2], a, b, api.ErrEdit}, {s, a[:2], b, api.ErrEdit}, {nil, a[:0], b[:0], nil}, {s, a[:5], b, api.ErrForm}} {
			_, err := call(c.s, c.a, c.b)
			isErr(t, name, err, c.err)
			if got := all(); got != was {
				t.Fatalf("%s: %s, not %s", name, got, was)
			}
		}
	}
	for name, call := range players() {
		for _, text := range someTexts() {
			call(text, a)
			if got := all(); got != was {
				t.Fatalf("%s of %q: %s, not %s", name, text, got, was)
			}
		}
	}
	a[2] = "3"
	was = all()
	for name, call := range printers() {
		_, err := call(s, a, b)
		isErr(t, name, err, api.ErrDot)
	}
	for name, call := range players() {
		_, _, err := call("1d\n", a)
		isErr(t, name, err, api.ErrForm)
	}
	if got := all(); got != was {
		t.Errorf("%s, not %s", got, was)
	}
}

// P2: what is told is not changed by what the caller writes into what it handed in, and the next call does not meet what was handed in before.
func TestTextsAreKept(t *testing.T) {
	for name, call := range printers() {
		s, a, b := someChanges()
		text, err := call(s, a, b)
		isErr(t, name, err, nil)
		was := strings.Clone(text)
		scribble(s, api.Change{A: 66})
		scribble(a, "over")
		scribble(b, "over")
		if text != was {
			t.Error(name, "has changed")
		}
		again, err := call(someChanges())
		isText(t, name+" again", again, err, was)
	}
}

// P2: the lines that are answered share nothing with those handed in, in their spare room neither, and what the caller writes into either is met by no later call.
func TestAnswersAreTheCallers(t *testing.T) {
	for name, call := range players() {
		for _, text := range someTexts() {
			ask := func() (answers, []string) {
				l := roomy([]string{"1\n", "2\n", "3\n"}, "spare")
				made, line, err := call(text, l)
				return answers{made, line, err}, l
			}
			first, _ := ask()
			want := first.String()
			for range 3 {
				got, l := ask()
				if got.String() != want {
					t.Errorf("%s of %q: %s, then %v", name, text, want, got)
				}
				was := fmt.Sprintf("%q", l[:cap(l)])
				scribble(got.l, "over")
				if now := fmt.Sprintf("%q", l[:cap(l)]); now != was {
					t.Errorf("%s of %q: what was handed in has become %s", name, text, now)
				}
				got, l = ask()
				scribble(l, "over")
				if got.String() != want {
					t.Errorf("%s of %q: %s has become %v", name, text, want, got)
				}
			}
			if first.String() != want {
				t.Errorf("%s of %q: %s has become %v", name, text, want, first)
			}
		}
	}
}

// P2: a list that is nil, and an empty one, are the same.
func TestNilIsEmpty(t *testing.T) {
	one := script([][4]int{{0, 1, 0, 0}})
	for name, call := range printers() {
		for _, c := range [][2]string{
			{fmt.Sprint(call(nil, nil, nil)), fmt.Sprint(call([]api.Change{}, []string{}, []string{}))},
			{fmt.Sprint(call(one, []string{"a\n"}, nil)), fmt.Sprint(call(one, []string{"a\n"}, []string{}))},
			{fmt.Sprint(call(one, nil, nil)), fmt.Sprint(call(one, []string{}, []string{}))},
		} {
			if c[0] != c[1] {
				t.Error(name, c)
			}
		}
	}
	for name, call := range players() {
		for _, text := range someTexts() {
			if x, y := fmt.Sprint(call(text, nil)), fmt.Sprint(call(text, []string{})); x != y {
				t.Errorf("%s of %q: %s, %s", name, text, x, y)
			}
		}
	}
}

// P2: answers hang on the arguments alone: at the same time, too.
func TestCallsStandAlone(t *testing.T) {
	s, a, b := someChanges()
	all := func() string {
		var w strings.Builder
		for _, call := range []printer{Print, Forward, Rcs} {
			text, err := call(s, a, b)
			fmt.Fprintf(&w, "%q %v", text, err)
		}
		for _, text := range someTexts() {
			fmt.Fprintln(&w, run(text, a), patch(text, a))
		}
		return w.String()
	}
	want := all()
	done := make(chan string)
	for range 8 {
		go func() {
			for range 50 {
				if got := all(); got != want {
					done <- got
					return
				}
			}
			done <- ""
		}()
	}
	for range 8 {
		if fault := <-done; fault != "" {
			t.Error("at the same time:", fault)
		}
	}
}

// P1: the printers do not panic, whatever they are given, and each error is one of those that the chapter names, with nothing beside it.
func TestPrintersDoNotPanic(t *testing.T) {
	numbers := []int{math.MinInt, -1, 0, 1, 2, api.MaxNumber, math.MaxInt}
	texts := []string{"", "a", "a\n", "b\n", ".\n", "\n", "\n\n", "a\nb"}
	next := steps(5)
	number := func() int { return numbers[next.below(len(numbers))] }
	list := func() []string {
		var l []string
		for range next.below(4) {
			l = append(l, texts[next.below(len(texts))])
		}
		return l
	}
	for range 100000 {
		var s []api.Change
		for range next.below(3) {
			s = append(s, api.Change{A: number(), N: number(), B: number(), M: number()})
		}
		a, b := list(), list()
		for name, call := range printers() {
			text, err := call(s, a, b)
			if err != nil && (text != "" || err != api.ErrForm && err != api.ErrEdit && err != api.ErrDot) || err == nil && (text == "") != (len(s) == 0) {
				t.Fatalf("%s of %v %q %q: %q, %v", name, s, a, b, text, err)
			}
		}
	}
}

// P1: the players do not panic, whatever they are given, and each error is one of those that the chapter names, with nothing beside it but a line.
func TestPlayersDoNotPanic(t *testing.T) {
	pieces := []string{"1", "2", "0", ",", ".", "$", "a", "i", "c", "d", "s/.//", "w", "q", "\n", "\n", "\n", ".\n", "a\nx\n.\n", "a1 1\n", "d2 1\n", " ", "x", "\x00", "\xff", "2147483647"}
	olds := [][]string{nil, {"1\n"}, {"\n", "2\n"}, lines.Split(four), {"x"}, {""}, {"1\n", "2"}}
	next := steps(7)
	for range 300000 {
		var b strings.Builder
		for range next.below(20) {
			b.WriteString(pieces[next.below(len(pieces))])
		}
		text, l := b.String(), olds[next.below(len(olds))]
		for name, call := range players() {
			made, line, err := call(text, l)
			if err == nil {
				if line != 0 || !lines.Valid(made) || len(made) > 0 && !lines.Whole(made[len(made)-1]) {
					t.Fatalf("%s of %q with %q: %q, %d", name, text, l, made, line)
				}
				continue
			}
			known := err == api.ErrForm || err == api.ErrPlace || err == api.ErrDot
			if made != nil || !known || line > lines.Count(text) || line < 0 || line == 0 && err != api.ErrForm {
				t.Fatalf("%s of %q with %q: %q, %d, %v", name, text, l, made, line, err)
			}
		}
	}
}

// soon fails where a call takes long.
func soon(t *testing.T, what string, call func()) {
	t.Helper()
	done := make(chan struct{})
	go func() {
		defer close(done)
		call()
	}()
	select {
	case <-done:
	case <-time.After(60 * time.Second):
		t.Fatal(what, "takes too long")
	}
}

// P1: long scripts are printed and done soon.
func TestLongScriptsEndSoon(t *testing.T) {
	soon(t, "a long change", func() {
		const n = 500000
		a, b := slices.Repeat([]string{"x\n"}, n), slices.Repeat([]string{"y\n"}, n)
		isThere(t, script([][4]int{{0, n, 0, n}}), a, b)
	})
	soon(t, "many changes", func() {
		const n = 100000
		a, b := slices.Repeat([]string{"x\n", "z\n"}, n), slices.Repeat([]string{"y\n", "z\n"}, n)
		var s []api.Change
		for i := range n {
			s = append(s, api.Change{A: 2 * i, N: 1, B: 2 * i, M: 1})
		}
		isThere(t, s, a, b)
	})
	soon(t, "many dots", func() {
		isThere(t, script([][4]int{{0, 0, 0, 200000}}), nil, slices.Repeat([]string{".\n"}, 200000))
	})
	soon(t, "as many lines as may be", func() {
		a := slices.Repeat([]string{"\n"}, api.MaxBytes)
		s := script([][4]int{{0, len(a), 0, len(a)}})
		text, err := Print(s, a, a)
		if err != nil || len(text) != len("1,4194304c\n.\n")+len(a) {
			t.Error(len(text), err)
		}
		// What is told is longer than a text may be that is done.
		isAnswer(t, "Run of it", run(text, a), wrong(0, api.ErrLong))
		text, err = Rcs(s, a, a)
		if err != nil || len(text) != len("d1 4194304\na4194304 4194304\n")+len(a) {
			t.Error(len(text), err)
		}
		isAnswer(t, "Patch of it", patch(text, a), wrong(0, api.ErrLong))
	})
}

// P1: many commands, with many lines, here and there, are done soon.
func TestManyCommandsEndSoon(t *testing.T) {
	const n = 300000
	l := slices.Repeat([]string{"xx\n"}, 1000000)
	check := func(what, commands string, times int, want []string) {
		soon(t, what, func() {
			isAnswer(t, what, run(strings.Repeat(commands, times), l), answers{l: want})
		})
	}
	check("lines that come at both ends", "0a\n\n.\n$a\n\n.\n", n/2, slices.Concat(slices.Repeat([]string{"\n"}, n/2), l, slices.Repeat([]string{"\n"}, n/2)))
	check("lines that go at both ends", "1d\n$d\n", n, l[2*n:])
	check("lines that go in the middle", "300000d\n", n, l[n:])
	check("lines that are changed at both ends", "1c\nyy\n.\n$c\nzz\n.\n", 150000, slices.Concat([]string{"yy\n"}, l[2:], []string{"zz\n"}))
	check("lines that come without an address", "i\n\n.\n", n, slices.Concat(l[1:], slices.Repeat([]string{"\n"}, n), l[:1]))
	check("all lines go, and come", "1,$d\na\nx\n.\n", n, []string{"x\n"})
	soon(t, "many faults", func() {
		isAnswer(t, "very many addresses", run(strings.Repeat("1,", 1000000)+"1d\n", l), wrong(1, api.ErrForm))
		isAnswer(t, "a very long number", run(strings.Repeat("1", 4000000)+"d\n", l), wrong(1, api.ErrForm))
	})
	soon(t, "many commands of RCS", func() {
		var b strings.Builder
		for i := range n {
			fmt.Fprintf(&b, "d%d 1\n", 2*i+1)
		}
		isAnswer(t, "many that go", patch(b.String(), l), answers{l: l[n:]})
		isAnswer(t, "a count that is too great", patch("a1 2147483647\n"+strings.Repeat("\n", 4000000), l), wrong(1, api.ErrDot))
	})
}
