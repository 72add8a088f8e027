package normal

import (
	"fmt"
	"math"
	"selvage/api"
	"slices"
	"strings"
	"testing"
	"time"
)

// scribble writes over a list, and over the room behind it.
func scribble[T any](list []T, with T) {
	list = list[:cap(list)]
	for i := range list {
		list[i] = with
	}
}

// roomy is a list with spare room behind it, all of it filled.
func roomy[T any](list []T, spare T) []T {
	long := append(slices.Clone(list), spare, spare, spare)
	return long[:len(list)]
}

// scribbleHunks writes over hunks and all of their rows, the spare room too.
func scribbleHunks(l []api.Hunk) {
	for _, h := range l {
		scribble(h.Rows, api.Row{Kind: 66, Text: "over"})
	}
	scribble(l, api.Hunk{A: 66, Head: "over"})
}

// inFull are hunks as a text, as far as their room goes.
func inFull(l []api.Hunk) string {
	var b strings.Builder
	for _, h := range l[:cap(l)] {
		h.Rows = h.Rows[:cap(h.Rows)]
		b.WriteString(shown(h))
	}
	return b.String()
}

// someHunks are three hunks in order, with spare room everywhere.
func someHunks() []api.Hunk {
	l := []api.Hunk{
		hunk(1, 1, 1, 2, "-1\n", "+x\n", "+y\n"),
		headed(hunk(5, 2, 5, 0, "-4\n", "-5\n"), "g"),
		hunk(9, 1, 10, 1, "-7", "+8"),
	}
	for i := range l {
		l[i].Rows = roomy(l[i].Rows, api.Row{Kind: 77, Text: "spare"})
	}
	return roomy(l, api.Hunk{A: 77})
}

// someChanges are changes that touch, with lines for them, with spare room everywhere.
func someChanges() ([]api.Change, []string, []string) {
	s := script([][4]int{{0, 1, 0, 0}, {1, 0, 0, 1}, {2, 1, 2, 2}})
	return roomy(s, api.Change{A: 77}), roomy([]string{"1\n", "2\n", "3"}, "spare"), roomy([]string{"x\n", "2\n", "y\n", "z\n"}, "spare")
}

// P2: what is handed in stays as it is, the room behind it too, with an error or without.
func TestArgumentsStay(t *testing.T) {
	l, was := someHunks(), inFull(someHunks())
	Hunks(l)
	Hunks(l[1:])
	if got := inFull(l); got != was {
		t.Errorf("%s, not %s", got, was)
	}
	l[0], l[1] = l[1], l[0]
	was = inFull(l)
	if _, err := Hunks(l); err != api.ErrOrder {
		t.Error(err)
	}
	if got := inFull(l); got != was {
		t.Errorf("%s, not %s", got, was)
	}
	l[1].Rows[0].Kind = api.RowBoth
	was = inFull(l)
	if _, err := Hunks(l); err != api.ErrHunk {
		t.Error(err)
	}
	if got := inFull(l); got != was {
		t.Errorf("%s, not %s", got, was)
	}
	s, a, b := someChanges()
	all := func() string { return fmt.Sprintf("%v %q %q", s[:cap(s)], a[:cap(a)], b[:cap(b)]) }
	was = all()
	for _, c := range []struct {
		s    []api.Change
		a, b []string
		err  error
	}{{s, a, b, nil}, {s[:2], a, b, api.ErrEdit}, {s, a[:2], b, api.ErrEdit}, {nil, a[:0], b[:0], nil}} {
		_, err := Print(c.s, c.a, c.b)
		isErr(t, "Print", err, c.err)
	}
	if got := all(); got != was {
		t.Errorf("%s, not %s", got, was)
	}
	a[0] = "1"
	was = all()
	if _, err := Print(s, a, b); err != api.ErrLine {
		t.Error(err)
	}
	if got := all(); got != was {
		t.Errorf("%s, not %s", got, was)
	}
}

// P2: what is told is not changed by what the caller writes into what it handed in, and the next call does not meet what was handed in before.
func TestTextsAreKept(t *testing.T) {
	l := someHunks()
	s, a, b := someChanges()
	text, err := Hunks(l)
	isErr(t, "Hunks", err, nil)
	printed, err := Print(s, a, b)
	isErr(t, "Print", err, nil)
	wasText, wasPrinted := strings.Clone(text), strings.Clone(printed)
	scribbleHunks(l)
	scribble(s, api.Change{A: 66})
	scribble(a, "over")
	scribble(b, "over")
	if text != wasText || printed != wasPrinted {
		t.Error("the texts have changed")
	}
	again, err := Hunks(someHunks())
	isText(t, "Hunks again", again, err, wasText)
	again, err = Print(someChanges())
	isText(t, "Print again", again, err, wasPrinted)
}

// P2: what the caller writes into an answer is met by no later call.
func TestAnswersAreTheCallers(t *testing.T) {
	text, err := Hunks(someHunks())
	isErr(t, "Hunks", err, nil)
	for _, text := range []string{text, text + "left", strings.TrimSuffix(text, "\n"), "", "x", "1d0\n", text + "\\\n"} {
		want := parse(text).String()
		for range 3 {
			got := parse(text)
			if got.String() != want {
				t.Errorf("%v, then %v", want, got)
			}
			scribbleHunks(got.l)
		}
		other := parse(text)
		got := parse(text)
		scribbleHunks(got.l)
		if other.String() != want {
			t.Errorf("%v has become %v", want, other)
		}
	}
}

// P2: no two lists of one answer share memory, not in their spare room either.
func TestListsAreApart(t *testing.T) {
	var text string
	for i := range 20 {
		rows, _ := rowsOf(i+1, i%3+1)
		text += fmt.Sprintf("%d,%dc%d,%d\n%s", 100*i+1, 101*i+1, 100*i+1, 100*i+1+i%3, rows)
	}
	for i := range 20 {
		got := parse(text)
		isErr(t, "Parse", got.err, nil)
		others := slices.Delete(slices.Clone(got.l), i, i+1)
		was := inFull(slices.Clip(others))
		scribble(got.l[i].Rows, api.Row{Kind: 66, Text: "over"})
		if inFull(slices.Clip(others)) != was {
			t.Errorf("%d shares its rows", i)
		}
	}
}

// P2: a list that is nil, and an empty one, are the same.
func TestNilIsEmpty(t *testing.T) {
	for _, c := range [][2]string{
		{fmt.Sprint(Hunks(nil)), fmt.Sprint(Hunks([]api.Hunk{}))},
		{fmt.Sprint(Hunks([]api.Hunk{{}})), fmt.Sprint(Hunks([]api.Hunk{{Rows: []api.Row{}}}))},
		{fmt.Sprint(Print(nil, nil, nil)), fmt.Sprint(Print([]api.Change{}, []string{}, []string{}))},
		{fmt.Sprint(Print(script([][4]int{{0, 1, 0, 0}}), []string{"a"}, nil)), fmt.Sprint(Print(script([][4]int{{0, 1, 0, 0}}), []string{"a"}, []string{}))},
	} {
		if c[0] != c[1] {
			t.Error(c)
		}
	}
}

// P2: answers hang on the arguments alone: at the same time, too.
func TestCallsStandAlone(t *testing.T) {
	l := someHunks()
	s, a, b := someChanges()
	text, _ := Hunks(l)
	printed, _ := Print(s, a, b)
	want := parse(text + "left").String()
	done := make(chan string)
	for range 8 {
		go func() {
			for range 100 {
				again, _ := Hunks(l)
				print, _ := Print(s, a, b)
				if got := parse(text + "left").String(); again != text || print != printed || got != want {
					done <- again + print + got
					return
				}
			}
			done <- ""
		}()
	}
	for range 8 {
		if fault := <-done; fault != "" {
			t.Error("at the same time:", fault)
		}
	}
}

// P1: Print and Hunks do not panic, whatever they are given, and each error is one of those that the chapter names, with nothing beside it.
func TestPrintersDoNotPanic(t *testing.T) {
	numbers := []int{math.MinInt, -1, 0, 1, 2, api.MaxNumber - 1, api.MaxNumber, api.MaxNumber + 1, math.MaxInt}
	kinds := []int{math.MinInt, -1, 0, api.RowBoth, api.RowOld, api.RowNew, api.RowOld, api.RowNew, 4, math.MaxInt}
	texts := []string{"", "a", "a\n", "b\n", "\n", "\n\n", "a\nb"}
	next := steps(5)
	number := func() int { return numbers[next.below(len(numbers))] }
	someHunk := func() api.Hunk {
		h := api.Hunk{A: number(), N: number(), B: number(), M: number()}
		for range next.below(3) {
			h.Rows = append(h.Rows, api.Row{Kind: kinds[next.below(len(kinds))], Text: texts[next.below(len(texts))]})
		}
		if next.below(2) > 0 {
			h.N, h.M = counts(h.Rows)
		}
		return h
	}
	someLines := func() []string {
		var l []string
		for range next.below(4) {
			l = append(l, texts[next.below(len(texts))])
		}
		return l
	}
	for range 100000 {
		l := []api.Hunk{someHunk(), someHunk(), someHunk()}[next.below(4):]
		text, err := Hunks(l)
		if err != nil && (text != "" || err != api.ErrHunk && err != api.ErrOrder) || err == nil && (text == "") != (len(l) == 0) {
			t.Fatalf("%s: %q, %v", shown(l...), text, err)
		}
		var s []api.Change
		for range next.below(3) {
			s = append(s, api.Change{A: number(), N: number(), B: number(), M: number()})
		}
		text, err = Print(s, someLines(), someLines())
		if err != nil && (text != "" || err != api.ErrEdit && err != api.ErrLine) || err == nil && (text == "") != (len(s) == 0) {
			t.Fatalf("%v: %q, %v", s, text, err)
		}
	}
}

// P1: Parse does not panic, whatever it is given, and each error is one of those that the chapter names, with nothing beside it but a line.
func TestParseDoesNotPanic(t *testing.T) {
	pieces := []string{"1", "2", "0", ",", "a", "c", "d", "\n", "\n", "\n", "< ", "> ", "---\n", "\\", "x", "\x00", "\xff", "2147483647"}
	next := steps(7)
	for range 300000 {
		var b strings.Builder
		b.WriteString([]string{"", "1c1\n", small, "1,2d0\n< a\n"}[next.below(4)])
		for range next.below(20) {
			b.WriteString(pieces[next.below(len(pieces))])
		}
		got := parse(b.String())
		if got.err == nil {
			if got.line != 0 || !strings.HasSuffix(b.String(), got.left) || (len(got.l) == 0) != (got.left == b.String()) {
				t.Fatalf("%q: %v", b.String(), got)
			}
			continue
		}
		if !got.same(wrong(got.line, got.err)) || got.err != api.ErrLine && got.err != api.ErrOrder || got.line < 1 || got.line > strings.Count(b.String(), "\n")+2 {
			t.Fatalf("%q: %v", b.String(), got)
		}
	}
}

// soon fails where a call takes long.
func soon(t *testing.T, what string, call func()) {
	t.Helper()
	done := make(chan struct{})
	go func() {
		defer close(done)
		call()
	}()
	select {
	case <-done:
	case <-time.After(30 * time.Second):
		t.Fatal(what, "takes too long")
	}
}

// P1: changes of many lines, and many changes, are printed soon, and read again.
func TestLongScriptsEndSoon(t *testing.T) {
	soon(t, "a long change", func() {
		const n = 500000
		a, b := slices.Repeat([]string{"x\n"}, n), slices.Repeat([]string{"y\n"}, n)
		comesBack(t, script([][4]int{{0, n, 0, n}}), a, b)
	})
	soon(t, "many changes", func() {
		const n = 100000
		a, b := slices.Repeat([]string{"x\n", "z\n"}, n), slices.Repeat([]string{"y\n", "z\n"}, n)
		var s []api.Change
		for i := range n {
			s = append(s, api.Change{A: 2 * i, N: 1, B: 2 * i, M: 1})
		}
		comesBack(t, s, a, b)
	})
	soon(t, "as many lines as may be", func() {
		a := slices.Repeat([]string{"\n"}, api.MaxBytes)
		text, err := Print(script([][4]int{{0, len(a), 0, len(a)}}), a, a)
		if err != nil || len(text) != len("1,4194304c1,4194304\n---\n")+6*len(a) {
			t.Error(len(text), err)
		}
		// What is told is longer than a text may be that is read.
		isRead(t, text, wrong(0, api.ErrLong))
	})
}
