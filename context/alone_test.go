package context

import (
	"fmt"
	"math"
	"selvage/api"
	"slices"
	"strings"
	"testing"
	"time"
)

// scribble writes over a list, and over the room behind it.
func scribble[T any](list []T, with T) {
	list = list[:cap(list)]
	for i := range list {
		list[i] = with
	}
}

// roomy is a list with spare room behind it, all of it filled.
func roomy[T any](list []T, spare T) []T {
	long := append(slices.Clone(list), spare, spare, spare)
	return long[:len(list)]
}

// scribbleHunks writes over hunks and all of their rows, the spare room too.
func scribbleHunks(l []api.Hunk) {
	for _, h := range l {
		scribble(h.Rows, api.Row{Kind: 66, Text: "over"})
	}
	scribble(l, api.Hunk{A: 66, Head: "over"})
}

// inFull are hunks as a text, as far as their room goes.
func inFull(l []api.Hunk) string {
	var b strings.Builder
	for _, h := range l[:cap(l)] {
		h.Rows = h.Rows[:cap(h.Rows)]
		b.WriteString(shown(h))
	}
	return b.String()
}

// someHunks are four hunks in order, one with a new row ahead of an old one, with spare room everywhere.
func someHunks() []api.Hunk {
	l := []api.Hunk{
		hunk(1, 3, 1, 3, " f\n", "-1\n", "+x\n", " 2\n"),
		headed(hunk(5, 3, 5, 4, " 4\n", "+y\n", "-5\n", "+z\n", " 6\n"), "g"),
		hunk(8, 0, 9, 1, "+v\n"),
		hunk(9, 1, 10, 1, "-7", "+8"),
	}
	for i := range l {
		l[i].Rows = roomy(l[i].Rows, api.Row{Kind: 77, Text: "spare"})
	}
	return roomy(l, api.Hunk{A: 77})
}

// P2: what is handed in stays as it is, the room behind it too, with an error or without.
func TestArgumentsStay(t *testing.T) {
	was := inFull(someHunks())
	l := someHunks()
	for _, names := range [][2]api.Name{{named("a"), named("b")}, {named(""), named("b")}} {
		Print(names[0], names[1], l)
		Print(names[0], names[1], l[1:])
		for _, h := range l {
			Hunk(h)
		}
		if got := inFull(l); got != was {
			t.Errorf("%s, not %s", got, was)
		}
	}
	l[0], l[1] = l[1], l[0]
	was = inFull(l)
	if _, err := Print(named("a"), named("b"), l); err != api.ErrOrder {
		t.Error(err)
	}
	if got := inFull(l); got != was {
		t.Errorf("%s, not %s", got, was)
	}
}

// P2: what is printed is not changed by what the caller writes into the hunks later.
func TestTextsAreKept(t *testing.T) {
	l := someHunks()
	text, err := Print(named("a"), named("b"), l)
	one, oneErr := Hunk(l[1])
	isErr(t, "Print", err, nil)
	isErr(t, "Hunk", oneErr, nil)
	wasText, wasOne := strings.Clone(text), strings.Clone(one)
	scribbleHunks(l)
	if text != wasText || one != wasOne {
		t.Error("the texts have changed")
	}
}

// P2: what the caller writes into an answer is met by no later call.
func TestAnswersAreTheCallers(t *testing.T) {
	text, err := Print(named("a"), named("b"), someHunks())
	isErr(t, "Print", err, nil)
	for _, text := range []string{text, text + "left", strings.TrimSuffix(text, "\n"), header, "*** a\n", text + "\\\n"} {
		want := parse(text).String()
		for range 3 {
			got := parse(text)
			if got.String() != want {
				t.Errorf("%v, then %v", want, got)
			}
			scribbleHunks(got.l)
		}
		other := parse(text)
		got := parse(text)
		scribbleHunks(got.l)
		if other.String() != want {
			t.Errorf("%v has become %v", want, other)
		}
	}
}

// P2: no two lists of one answer share memory, not in their spare room either.
func TestListsAreApart(t *testing.T) {
	text := header
	for i := range 20 {
		rows := strings.Repeat("- a\n", i+1)
		text += parts(fmt.Sprintf("%d,%d", 100*i+1, 101*i+1), rows, fmt.Sprint(i), "")
	}
	for i := range 20 {
		got := parse(text)
		isErr(t, "Parse", got.err, nil)
		others := slices.Delete(slices.Clone(got.l), i, i+1)
		was := inFull(slices.Clip(others))
		scribble(got.l[i].Rows, api.Row{Kind: 66, Text: "over"})
		if inFull(slices.Clip(others)) != was {
			t.Errorf("%d shares its rows", i)
		}
	}
}

// P2: a list that is nil, and an empty one, are the same.
func TestNilIsEmpty(t *testing.T) {
	for _, c := range [][2]string{
		{fmt.Sprint(Print(named("a"), named("b"), nil)), fmt.Sprint(Print(named("a"), named("b"), []api.Hunk{}))},
		{fmt.Sprint(Print(named(""), named("b"), nil)), fmt.Sprint(Print(named(""), named("b"), []api.Hunk{}))},
		{fmt.Sprint(Hunk(api.Hunk{})), fmt.Sprint(Hunk(api.Hunk{Rows: []api.Row{}}))},
	} {
		if c[0] != c[1] {
			t.Error(c)
		}
	}
}

// P2: answers hang on the arguments alone: at the same time, too.
func TestCallsStandAlone(t *testing.T) {
	l := someHunks()
	text, _ := Print(named("a"), named("b"), l)
	one, _ := Hunk(l[1])
	want := parse(text + "left").String()
	done := make(chan string)
	for range 8 {
		go func() {
			for range 100 {
				again, _ := Print(named("a"), named("b"), l)
				hunk, _ := Hunk(l[1])
				if got := parse(text + "left").String(); again != text || hunk != one || got != want {
					done <- again + hunk + got
					return
				}
			}
			done <- ""
		}()
	}
	for range 8 {
		if fault := <-done; fault != "" {
			t.Error("at the same time:", fault)
		}
	}
}

// P1: no call panics, whatever it is given, and each error is one of those that the chapter names, with nothing beside it but a line.
func TestNothingPanics(t *testing.T) {
	numbers := []int{math.MinInt, -1, 0, 1, 2, api.MaxNumber - 1, api.MaxNumber, api.MaxNumber + 1, math.MaxInt}
	kinds := []int{math.MinInt, -1, 0, api.RowBoth, api.RowOld, api.RowNew, 4, math.MaxInt}
	texts := []string{"", "a", "a\n", "\n", "\n\n", "a\nb"}
	names := []api.Name{{}, named("a"), named("\x00"), {Path: "b", Stamp: "s"}, {Path: "b", Stamp: "\n"}}
	next := steps(5)
	number := func() int { return numbers[next.below(len(numbers))] }
	some := func() api.Hunk {
		h := api.Hunk{A: number(), N: number(), B: number(), M: number()}
		for range next.below(3) {
			h.Rows = append(h.Rows, api.Row{Kind: kinds[next.below(len(kinds))], Text: texts[next.below(len(texts))]})
		}
		if next.below(2) > 0 {
			h.N, h.M = counts(h.Rows)
		}
		return h
	}
	for range 100000 {
		l := []api.Hunk{some(), some(), some()}[next.below(4):]
		text, err := Print(names[next.below(len(names))], names[next.below(len(names))], l)
		if err != nil && (text != "" || err != api.ErrHead && err != api.ErrHunk && err != api.ErrOrder) || err == nil && text == "" {
			t.Fatalf("%q, %v", text, err)
		}
		text, err = Hunk(some())
		if err != nil && (text != "" || err != api.ErrHunk) || err == nil && text == "" {
			t.Fatalf("%q, %v", text, err)
		}
	}
	pieces := []string{"*** ", "--- ", " ****", " ----", fifteen, "1", ",", "0", "\n", "\n", "\n", "- ", "+ ", "  ", "! ", "\\", "a", "\"", "\t", "\x00", "2147483647"}
	errs := []error{api.ErrHead, api.ErrHunk, api.ErrCount, api.ErrOrder}
	for range 300000 {
		var b strings.Builder
		b.WriteString([]string{"", "*** a\n", header, header + fifteen + "\n*** 1 ****\n! a\n", header + small}[next.below(5)])
		for range next.below(20) {
			b.WriteString(pieces[next.below(len(pieces))])
		}
		got := parse(b.String())
		if got.err == nil {
			if got.line != 0 || len(got.l) == 0 || !strings.HasSuffix(b.String(), got.left) {
				t.Fatalf("%q: %v", b.String(), got)
			}
			continue
		}
		if !got.same(wrong(got.line, got.err)) || !slices.Contains(errs, got.err) || got.line < 1 || got.line > strings.Count(b.String(), "\n")+2 {
			t.Fatalf("%q: %v", b.String(), got)
		}
	}
}

// soon fails where a call takes long.
func soon(t *testing.T, what string, call func()) {
	t.Helper()
	done := make(chan struct{})
	go func() {
		defer close(done)
		call()
	}()
	select {
	case <-done:
	case <-time.After(30 * time.Second):
		t.Fatal(what, "takes too long")
	}
}

// P1: long names, and hunks of many rows and many runs, are printed soon, and read again.
func TestLongHunksEndSoon(t *testing.T) {
	soon(t, "a long hunk", func() {
		const n = 300000
		h := api.Hunk{A: 1, N: n, B: 1, M: n}
		for range n {
			h.Rows = append(h.Rows, row("-x\n"))
		}
		for range n {
			h.Rows = append(h.Rows, row("+y\n"))
		}
		comesBack(t, named("a"), named("b"), []api.Hunk{h})
		text, err := Hunk(h)
		if err != nil || len(text) != len(parts("1,300000", "", "1,300000", ""))+8*n {
			t.Error(len(text), err)
		}
		turned := h
		turned.Rows = slices.Concat(h.Rows[n:], h.Rows[:n])
		again, err := Hunk(turned)
		isErr(t, "the new rows ahead", err, nil)
		if again != text {
			t.Error("the new rows ahead of the old ones are told otherwise")
		}
	})
	soon(t, "many runs", func() {
		const n = 200000
		h := api.Hunk{A: 1, N: 2 * n, B: 1, M: 2 * n}
		for range n {
			h.Rows = append(h.Rows, row("-x\n"), row("+y\n"), row(" z\n"))
		}
		comesBack(t, named("a"), named("b"), []api.Hunk{h})
	})
	soon(t, "a long name", func() {
		name := strings.Repeat("\n", api.MaxBytes)
		text, err := Print(named(name), named("b"), nil)
		if err != nil || len(text) != 2*len(name)+len("*** \"\"\n--- b\n") {
			t.Error(len(text), err)
		}
	})
}
