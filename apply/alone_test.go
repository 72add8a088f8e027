package apply

import (
	"fmt"
	"math"
	"selvage/api"
	"slices"
	"testing"
)

// scribble writes over a list, and over the room behind it.
func scribble[T any](list []T, with T) {
	list = list[:cap(list)]
	for i := range list {
		list[i] = with
	}
}

// roomy is a list with spare room behind it, all of it filled.
func roomy[T any](list []T, spare T) []T {
	long := append(slices.Clone(list), spare, spare, spare)
	return long[:len(list)]
}

// scribbleHunks writes over hunks and all of their rows, the spare room too.
func scribbleHunks(l []api.Hunk) {
	for _, h := range l[:cap(l)] {
		scribble(h.Rows, api.Row{Kind: 66, Text: "over"})
	}
	scribble(l, api.Hunk{A: 66, Head: "over"})
}

// roomyHunks are hunks with spare room behind them, and behind their rows.
func roomyHunks(l ...api.Hunk) []api.Hunk {
	for i := range l {
		l[i].Rows = roomy(l[i].Rows, api.Row{Kind: api.RowNew, Text: "spare\n"})
	}
	return roomy(l, hunk(1, 1, "+s"))
}

// handed is what calls are handed.
type handed struct {
	old           []string
	first, second []api.Hunk
}

// someHanded is a text, hunks that make another one of it, and hunks that make a third one of that, all with spare room.
func someHanded() handed {
	return handed{
		old:    roomy(textOf("abcdefghi|"), "spare\n"),
		first:  roomyHunks(hunk(1, 1, " a", "-b", "+x", "+y", " c"), hunk(5, 6, " e", "-f", " g"), hunk(9, 9, "-i|", "+z|")),
		second: roomyHunks(hunk(2, 2, "-x", " y", "+p"), hunk(7, 7, " g", " h", "-z|", "+q")),
	}
}

// text is all that is handed, with its spare room.
func (h handed) text() string {
	text := fmt.Sprint(h.old[:cap(h.old)])
	for _, l := range [][]api.Hunk{h.first, h.second} {
		for _, one := range l[:cap(l)] {
			text += fmt.Sprint(one, one.Rows[:cap(one.Rows)])
		}
	}
	return text
}

// scribble writes over all that is handed.
func (h handed) scribble() {
	scribble(h.old, "over\n")
	scribbleHunks(h.first)
	scribbleHunks(h.second)
}

// asked is a call's answer, as a text that is made when it is asked for, and a way to write over it.
type asked struct {
	text func() string
	over func()
}

// ofApply is an answer of Apply.
func ofApply(x answer) asked {
	return asked{x.String, func() {
		scribble(x.lines, "over\n")
		scribble(x.hits, Hit{6, 6, 6, 6})
		scribble(x.rejects, 66)
	}}
}

// calls are all calls, with what is handed to them.
func (h handed) calls() []func() asked {
	lost := roomyHunks(hunk(1, 1, "-q"), hunk(2, 2, " a", "-b", " q"), hunk(1, 1, "+s", " q", " q"))
	bad := roomyHunks(h.first[0], api.Hunk{})
	applied := func(l []api.Hunk, fuzz int) func() asked {
		return func() asked { return ofApply(apply(h.old, l, fuzz)) }
	}
	told := func(text func() string) func() asked {
		return func() asked {
			told := text()
			return asked{func() string { return told }, func() {}}
		}
	}
	return []func() asked{
		applied(nil, 0),
		applied(h.first, 0),
		applied(h.first[:2], 3),
		applied(lost, 0),
		applied(lost, 3),
		applied(bad, 0),
		applied(h.first, -1),
		applied(h.second, 1),
		told(func() string { return fmt.Sprint(Find(h.old, h.first[1], 0, 0, 0)) }),
		told(func() string { return fmt.Sprint(Find(h.old, lost[1], 0, 9, 1)) }),
		told(func() string { return fmt.Sprint(Find(h.old, bad[1], 0, 0, 1)) }),
		told(func() string { return fmt.Sprint(Already(h.old, h.first), Already(h.old, lost[2:])) }),
		func() asked {
			l, err := Combine(h.old, h.first, h.second, 1)
			return asked{func() string { return fmt.Sprint(l, err) }, func() { scribbleHunks(l) }}
		},
		func() asked {
			l, err := Combine(h.old, h.first, lost, 1)
			return asked{func() string { return fmt.Sprint(l, err) }, func() { scribbleHunks(l) }}
		},
	}
}

// P2: what is handed in stays as it is, the room behind it too, whatever the caller does with what it was given.
func TestArgumentsStay(t *testing.T) {
	was := someHanded().text()
	for i := range someHanded().calls() {
		h := someHanded()
		h.calls()[i]().over()
		if h.text() != was {
			t.Errorf("call %d: %s, not %s", i, h.text(), was)
		}
	}
}

// P2: what the caller writes into an answer is met by no later call, and what it writes into what it handed in by no answer.
func TestAnswersAreTheCallers(t *testing.T) {
	for i := range someHanded().calls() {
		h := someHanded()
		c := h.calls()[i]
		first := c()
		was := first.text()
		first.over()
		again := c()
		if again.text() != was {
			t.Errorf("call %d: %s, then %s", i, was, again.text())
		}
		for k, d := range h.calls() {
			other := d()
			if got, want := other.text(), someHanded().calls()[k]().text(); got != want {
				t.Errorf("call %d behind %d: %s, not %s", k, i, got, want)
			}
			other.over()
		}
		h.scribble()
		if again.text() != was {
			t.Errorf("call %d: %s has become %s", i, was, again.text())
		}
	}
}

// P2: no two lists of one answer share memory: what is written behind one, or into it, is not in another one.
func TestListsAreApart(t *testing.T) {
	h := someHanded()
	l, err := Combine(h.old, h.first, h.second, 0)
	isErr(t, "Combine", err, nil)
	if len(l) < 2 {
		t.Fatal(len(l))
	}
	for i := range l {
		var others []api.Hunk
		others = append(append(others, l[:i]...), l[i+1:]...)
		was := fmt.Sprint(others)
		scribble(l[i].Rows, api.Row{Kind: 44 + i, Text: "over"})
		if fmt.Sprint(others) != was {
			t.Errorf("hunk %d shares its rows", i)
		}
	}
	// the lines that a first call makes are not those that a second one is handed, or makes
	made, _, _, _ := Apply(h.old, nil, 0)
	again, _, _, _ := Apply(made, nil, 0)
	scribble(made, "over\n")
	if !slices.Equal(again, h.old) || !slices.Equal(h.old, textOf("abcdefghi|")) {
		t.Errorf("%q, %q", h.old, again)
	}
}

// P2: a list that is nil, and an empty one, are the same.
func TestNilIsEmpty(t *testing.T) {
	come := one(hunk(0, 1, "+a"))
	none := api.Hunk{Rows: []api.Row{}}
	for _, c := range [][2]string{
		{apply(nil, nil, 0).String(), apply([]string{}, []api.Hunk{}, 0).String()},
		{apply(nil, come, 0).String(), apply([]string{}, come, 0).String()},
		{apply(nil, one(api.Hunk{}), 0).String(), apply([]string{}, one(none), 0).String()},
		{fmt.Sprint(Find(nil, come[0], 0, 0, 0)), fmt.Sprint(Find([]string{}, come[0], 0, 0, 0))},
		{fmt.Sprint(Find(nil, api.Hunk{}, 0, 0, 0)), fmt.Sprint(Find([]string{}, none, 0, 0, 0))},
		{fmt.Sprint(Already(nil, nil)), fmt.Sprint(Already([]string{}, []api.Hunk{}))},
		{fmt.Sprint(Combine(nil, nil, nil, 0)), fmt.Sprint(Combine([]string{}, []api.Hunk{}, []api.Hunk{}, 0))},
		{fmt.Sprint(Combine(nil, come, nil, 0)), fmt.Sprint(Combine([]string{}, come, []api.Hunk{}, 0))},
	} {
		if c[0] != c[1] {
			t.Error(c)
		}
	}
}

// P2: answers hang on the arguments alone: at the same time, too.
func TestCallsStandAlone(t *testing.T) {
	h := someHanded()
	all := func() string {
		text := ""
		for _, c := range h.calls() {
			text += c().text()
		}
		return text
	}
	want := all()
	done := make(chan string)
	for range 8 {
		go func() {
			for range 100 {
				if got := all(); got != want {
					done <- got
					return
				}
			}
			done <- ""
		}()
	}
	for range 8 {
		if fault := <-done; fault != "" {
			t.Error("at the same time:", fault)
		}
	}
}

// P1: no call panics, whatever it is given, and each error is one that the chapter names, with nothing beside it.
func TestNothingPanics(t *testing.T) {
	numbers := []int{math.MinInt, math.MinInt + 1, -1, 0, 0, 1, 1, 1, 2, 2, 3, 4, api.MaxNumber - 1, api.MaxNumber, api.MaxNumber + 1, math.MaxInt - 1, math.MaxInt}
	texts := []string{"", "a", "a\n", "a\n", "b\n", "b\n", "\n\n", "a\nb"}
	next := steps(6)
	number := func() int { return numbers[next.below(len(numbers))] }
	list := func() []string {
		var l []string
		for range next.below(5) {
			l = append(l, texts[next.below(len(texts))])
		}
		return l
	}
	some := func() []api.Hunk {
		var l []api.Hunk
		for range next.below(3) {
			h := api.Hunk{A: number(), N: number(), B: number(), M: number()}
			for range next.below(5) {
				h.Rows = append(h.Rows, api.Row{Kind: next.below(5), Text: texts[next.below(len(texts))]})
			}
			if next.below(3) > 0 {
				h.N, h.M = len(sideByWords(h.Rows, api.RowOld)), len(sideByWords(h.Rows, api.RowNew))
			}
			l = append(l, h)
		}
		return l
	}
	known := []error{nil, api.ErrArg, api.ErrLine, api.ErrHunk, api.ErrMiss, api.ErrOrder, api.ErrEdit}
	for range 200000 {
		old, l, fuzz := list(), some(), number()
		got := doesByWords(t, old, l, fuzz)
		if len(l) > 0 {
			findsByWords(t, old, call{l[0], number(), number(), number()})
		}
		Already(old, l)
		joined, err := Combine(old, l, some(), number())
		if !slices.Contains(known[:4], got.err) || !slices.Contains(known, err) || err != nil && len(joined) > 0 {
			t.Fatal(got.err, err, joined)
		}
	}
}
