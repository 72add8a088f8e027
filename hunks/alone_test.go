package hunks

import (
	"fmt"
	"math"
	"selvage/api"
	"slices"
	"strings"
	"testing"
	"time"
)

// roomy is a list with spare room behind it, all of it filled.
func roomy[T any](list []T, spare T) []T {
	long := append(slices.Clone(list), spare, spare, spare)
	return long[:len(list)]
}

// scribble writes over a list, and over the room behind it.
func scribble[T any](list []T, with T) {
	list = list[:cap(list)]
	for i := range list {
		list[i] = with
	}
}

// roomyHunk is a hunk whose rows have spare room behind them.
func roomyHunk(h api.Hunk) api.Hunk {
	h.Rows = roomy(h.Rows, api.Row{Kind: 77, Text: "spare"})
	return h
}

// scribbleHunks writes over hunks and all of their rows, the spare room too.
func scribbleHunks(l []api.Hunk) {
	for _, h := range l {
		scribble(h.Rows, api.Row{Kind: 66, Text: "over"})
	}
	scribble(l, api.Hunk{A: 66, Head: "over"})
}

// inFull is a text of lists as far as their room goes.
func inFull(l []api.Hunk, s []api.Change, texts ...[]string) string {
	var b strings.Builder
	for _, h := range l[:cap(l)] {
		h.Rows = h.Rows[:cap(h.Rows)]
		b.WriteString(shown(h))
	}
	fmt.Fprintf(&b, "%v", s[:cap(s)])
	for _, text := range texts {
		fmt.Fprintf(&b, "%q", text[:cap(text)])
	}
	return b.String()
}

// handed is what calls are handed.
type handed struct {
	s    []api.Change
	a, b []string
	l    []api.Hunk
	h    api.Hunk
}

// someHanded is a script with its texts, two hunks, and one more, all with spare room.
func someHanded() handed {
	a := []string{"f\n", "1\n", "2\n", "3\n", "4\n", "5\n", "6\n"}
	b := []string{"f\n", "x\n", "2\n", "3\n", "4\n", "y\n", "z\n", "6\n"}
	return handed{
		s: roomy(script([4]int{1, 1, 1, 1}, [4]int{5, 0, 5, 1}, [4]int{5, 1, 6, 1}), api.Change{A: 77}),
		a: roomy(a, "spare"),
		b: roomy(b, "spare"),
		l: roomy([]api.Hunk{
			roomyHunk(hunk(1, 3, 1, 3, " f\n", "-1\n", "+x\n", " 2\n")),
			roomyHunk(headed(hunk(5, 3, 5, 4, " 4\n", "+y\n", "-5\n", "+z\n", " 6\n"), "g")),
		}, api.Hunk{A: 77}),
		h: roomyHunk(headed(hunk(2, 5, 2, 6, "-1\n", "+x\n", " 2\n", " 3\n", " 4\n", "+y\n", "-5\n", "+z\n"), "g")),
	}
}

// text is all that is handed, with its spare room.
func (h handed) text() string {
	return inFull(h.l, h.s, h.a, h.b) + inFull([]api.Hunk{h.h}, nil)
}

// scribble writes over all that is handed.
func (h handed) scribble() {
	scribbleHunks(h.l)
	scribble(h.s, api.Change{A: 55})
	scribble(h.a, "55")
	scribble(h.b, "55")
	scribble(h.h.Rows, api.Row{Kind: 55})
}

// call is one call: its answer, as a text that is made when it is asked for, and a way to write over it.
type call struct {
	name string
	do   func() (text func() string, over func())
}

// ofHunks is an answer of hunks.
func ofHunks(l []api.Hunk, err error) (func() string, func()) {
	return func() string { return fmt.Sprint(shown(l...), err) }, func() { scribbleHunks(l) }
}

// ofNothing is an answer without a list.
func ofNothing(v any) (func() string, func()) {
	return func() string { return fmt.Sprint(v) }, func() {}
}

// calls are all calls, with what is handed to them.
func (h handed) calls() []call {
	type answer = func() (func() string, func())
	one := func(x api.Hunk, err error) (func() string, func()) { return ofHunks([]api.Hunk{x}, err) }
	wide := func(context int) answer {
		return func() (func() string, func()) { return one(Wide(h.l[0], h.a, context)) }
	}
	narrow := func(context int) answer {
		return func() (func() string, func()) { return ofHunks(Narrow(h.h, context)) }
	}
	build := func(context int) answer {
		return func() (func() string, func()) { return ofHunks(Build(h.s, h.a, h.b, context)) }
	}
	return []call{
		{"Valid", func() (func() string, func()) { return ofNothing(Valid(h.h)) }},
		{"Order", func() (func() string, func()) { return ofNothing(Order(h.l)) }},
		{"Build 0", build(0)},
		{"Build 1", build(1)},
		{"Build 9", build(9)},
		{"Build with an error", build(-1)},
		{"Head", func() (func() string, func()) { return ofNothing(Head(h.a, 3)) }},
		{"Named", func() (func() string, func()) { return ofHunks(Named(h.l, h.a), nil) }},
		{"Script", func() (func() string, func()) {
			s, err := Script(h.l, 7, 8)
			return func() string { return fmt.Sprint(s, err) }, func() { scribble(s, api.Change{A: 66}) }
		}},
		{"Sides", func() (func() string, func()) {
			old, fresh := Sides(h.h)
			return func() string { return fmt.Sprintf("%q %q", old, fresh) }, func() { scribble(old, "old"); scribble(fresh, "fresh") }
		}},
		{"Reverse", func() (func() string, func()) { return one(Reverse(h.h), nil) }},
		{"Reverse of rows in order", func() (func() string, func()) { return one(Reverse(h.l[0]), nil) }},
		{"Narrow 0", narrow(0)},
		{"Narrow 1", narrow(1)},
		{"Narrow 9", narrow(9)},
		{"Narrow with an error", narrow(-1)},
		{"Wide 0", wide(0)},
		{"Wide 1", wide(1)},
		{"Wide 3", wide(3)},
		{"Wide with an error", wide(-1)},
		{"Split", func() (func() string, func()) { return ofHunks(Split(h.h, 3)) }},
		{"Split with an error", func() (func() string, func()) { return ofHunks(Split(h.h, 0)) }},
	}
}

// H7, P2: what is handed in stays as it is, the room behind it too, whatever the caller does with what it was given.
func TestArgumentsStay(t *testing.T) {
	was := someHanded().text()
	for i := range someHanded().calls() {
		h := someHanded()
		c := h.calls()[i]
		_, over := c.do()
		over()
		if h.text() != was {
			t.Errorf("%s: %s, not %s", c.name, h.text(), was)
		}
	}
}

// H7, P2: what the caller writes into an answer is met by no later call, and what it writes into what it handed in by no answer.
func TestAnswersAreTheCallers(t *testing.T) {
	for i := range someHanded().calls() {
		h := someHanded()
		c := h.calls()[i]
		text, over := c.do()
		first := text()
		over()
		again, _ := c.do()
		if again() != first {
			t.Errorf("%s: %s, then %s", c.name, first, again())
		}
		for j, d := range h.calls() {
			got, over := d.do()
			was := got()
			over()
			if want, _ := someHanded().calls()[j].do(); want() != was {
				t.Errorf("%s behind %s: %s, not %s", d.name, c.name, was, want())
			}
		}
		h.scribble()
		if again() != first {
			t.Errorf("%s: %s has become %s", c.name, first, again())
		}
	}
}

// H7, P2: no two lists of one answer share memory: what is written behind one is not in the next.
func TestListsAreApart(t *testing.T) {
	apart := func(what string, l []api.Hunk) {
		t.Helper()
		if len(l) < 2 {
			t.Fatal(what, len(l))
		}
		for i := range l {
			var others []api.Hunk
			others = append(append(others, l[:i]...), l[i+1:]...)
			was := inFull(slices.Clip(others), nil)
			scribble(l[i].Rows, api.Row{Kind: 44 + i, Text: "over"})
			if inFull(slices.Clip(others), nil) != was {
				t.Errorf("%s: %d shares its rows", what, i)
			}
		}
	}
	h := someHanded()
	built, _ := Build(h.s, h.a, h.b, 1)
	apart("Build", built)
	cut, _ := Narrow(h.h, 1)
	apart("Narrow", cut)
	two, _ := Split(h.h, 3)
	apart("Split", two)
	apart("Named", Named(h.l, h.a))
	apart("Named of one twice", Named([]api.Hunk{h.h, h.h}, h.a))
	for _, rows := range [][]string{{" a\n", "-b\n", "+c\n"}, {" a\n"}, {"-a\n"}} {
		old, fresh := Sides(hunk(1, 1, 1, 1, rows...))
		scribble(old, "old")
		if slices.Contains(fresh[:cap(fresh)], "old") {
			t.Error("Sides share memory")
		}
	}
}

// P2: a list that is nil, and an empty one, are the same.
func TestNilIsEmpty(t *testing.T) {
	none := api.Hunk{Rows: []api.Row{}}
	for _, c := range [][2]string{
		{fmt.Sprint(Valid(api.Hunk{})), fmt.Sprint(Valid(none))},
		{fmt.Sprint(Order(nil)), fmt.Sprint(Order([]api.Hunk{}))},
		{fmt.Sprint(Build(nil, nil, nil, 3)), fmt.Sprint(Build([]api.Change{}, []string{}, []string{}, 3))},
		{fmt.Sprint(Head(nil, 1)), fmt.Sprint(Head([]string{}, 1))},
		{fmt.Sprint(Named(nil, nil)), fmt.Sprint(Named([]api.Hunk{}, []string{}))},
		{fmt.Sprint(Script(nil, 2, 2)), fmt.Sprint(Script([]api.Hunk{}, 2, 2))},
		{fmt.Sprint(Sides(api.Hunk{})), fmt.Sprint(Sides(none))},
		{fmt.Sprint(Reverse(api.Hunk{})), fmt.Sprint(Reverse(none))},
		{fmt.Sprint(Narrow(api.Hunk{}, 1)), fmt.Sprint(Narrow(none, 1))},
		{fmt.Sprint(Wide(hunk(0, 0, 1, 1, "+a\n"), nil, 1)), fmt.Sprint(Wide(hunk(0, 0, 1, 1, "+a\n"), []string{}, 1))},
		{fmt.Sprint(Split(api.Hunk{}, 1)), fmt.Sprint(Split(none, 1))},
	} {
		if c[0] != c[1] {
			t.Error(c)
		}
	}
}

// P2: answers hang on the arguments alone: at the same time, too.
func TestCallsStandAlone(t *testing.T) {
	h := someHanded()
	var want []string
	for _, c := range h.calls() {
		text, _ := c.do()
		want = append(want, text())
	}
	done := make(chan string)
	for range 8 {
		go func() {
			for i, c := range h.calls() {
				if text, _ := c.do(); text() != want[i] {
					done <- c.name + ": " + text()
					return
				}
			}
			done <- ""
		}()
	}
	for range 8 {
		if fault := <-done; fault != "" {
			t.Error("at the same time:", fault)
		}
	}
}

// P1: no call panics, whatever it is given, and each error is one of those that the chapter names.
func TestNothingPanics(t *testing.T) {
	numbers := []int{math.MinInt, -1, 0, 1, 2, api.MaxNumber, api.MaxNumber + 1, math.MaxInt}
	lists := [][]string{nil, {""}, {"a"}, {"a\n", "b"}, {"a", "b\n"}, {"a\nb\n"}}
	known := []error{nil, api.ErrArg, api.ErrForm, api.ErrHunk, api.ErrOrder, api.ErrEdit, api.ErrApply}
	is := func(err error) {
		if !slices.Contains(known, err) {
			t.Fatal(err)
		}
	}
	rows := someRows(2, []int{math.MinInt, 1, 2, 3}, []string{"a\n", "a", "", "\n\n"})
	next := steps(3)
	for range 30000 {
		number := func() int { return numbers[next.below(len(numbers))] }
		list := func() []string { return lists[next.below(len(lists))] }
		some := func() api.Hunk {
			h := api.Hunk{A: number(), N: number(), B: number(), M: number(), Rows: rows[next.below(len(rows))]}
			if next.below(2) > 0 {
				h.N, h.M = counts(h.Rows)
			}
			return h
		}
		l := []api.Hunk{some(), some()}[next.below(2):]
		is(Valid(l[0]))
		is(Order(l))
		_, err := Build(script([4]int{number(), number(), number(), number()}), list(), list(), number())
		is(err)
		Head(list(), number())
		Named(l, list())
		_, err = Script(l, number(), number())
		is(err)
		Sides(l[0])
		Reverse(l[0])
		_, err = Narrow(l[0], number())
		is(err)
		_, err = Wide(l[0], list(), number())
		is(err)
		_, err = Split(l[0], number())
		is(err)
	}
}

// soon fails where a call takes long.
func soon(t *testing.T, what string, call func()) {
	t.Helper()
	done := make(chan struct{})
	go func() {
		defer close(done)
		call()
	}()
	select {
	case <-done:
	case <-time.After(30 * time.Second):
		t.Fatal(what, "takes too long")
	}
}

// everyNth is a script that replaces each nth line of some by one other, with the texts.
func everyNth(n, lines int) ([]api.Change, []string, []string) {
	a := slices.Repeat([]string{" \n"}, lines)
	b := slices.Clone(a)
	var s []api.Change
	for at := 0; at < lines; at += n {
		s = append(s, api.Change{A: at, N: 1, B: at, M: 1})
		b[at] = "x\n"
	}
	return s, a, b
}

// P1, H6, H9: hunks of thousands of rows and more, and thousands of hunks and more.
func TestLongHunksEndSoon(t *testing.T) {
	for _, c := range [][3]int{{2, api.MaxBytes, 0}, {2, api.MaxBytes, 1}, {7, api.MaxBytes / 4, 3}, {8, api.MaxBytes / 4, 3}, {1, api.MaxBytes / 4, 0}, {5000, api.MaxBytes / 4, api.MaxNumber}} {
		s, a, b := everyNth(c[0], c[1])
		soon(t, fmt.Sprint("every ", c), func() {
			l, err := Build(s, a, b, c[2])
			if err != nil || Order(l) != nil {
				t.Error(c, err)
			}
			hunksOf := len(s)
			if c[0]-1 <= 2*c[2] {
				hunksOf = 1
			}
			if len(l) != hunksOf {
				t.Error(c, len(l), "hunks, not", hunksOf)
			}
			back, err := Script(l, len(a), len(b))
			if c[0] == 1 {
				s = script([4]int{0, c[1], 0, c[1]})
			}
			if err != nil || !slices.Equal(back, s) {
				t.Error(c, len(back), "changes,", err)
			}
			named := Named(l, a) // no line is a heading
			if len(named) != len(l) || named[len(l)-1].Head != "" {
				t.Error(c, "named", len(named))
			}
			long := l[0]
			cut, err := Narrow(long, 0)
			if err != nil || len(l) == 1 && len(cut) != len(s) {
				t.Error(c, len(cut), "pieces,", err)
			}
			if again := Reverse(Reverse(long)); !sameHunk(again, long) {
				t.Error(c, "turned twice it is another one")
			}
		})
	}
}

// P1, H5, H10: a run of as many rows as there may be lines, old and new ones in turn.
func TestLongRunsEndSoon(t *testing.T) {
	const lines = api.MaxBytes / 2
	h := api.Hunk{A: 1, N: lines, B: 1, M: lines}
	for range lines {
		h.Rows = append(h.Rows, row("+x\n"), row("-y\n"))
	}
	a := slices.Repeat([]string{"y\n"}, lines)
	soon(t, "a long run", func() {
		turned := Reverse(h)
		if turned.Rows[lines-1] != row("-x\n") || turned.Rows[lines] != row("+y\n") {
			t.Error("turned")
		}
		two, err := Split(h, lines)
		if err != nil || len(two[0].Rows) != lines || two[1].A != lines/2+1 {
			t.Error("split", err)
		}
		wide, err := Wide(h, append(a, "z"), api.MaxNumber)
		if err != nil || len(wide.Rows) != len(h.Rows)+1 {
			t.Error("wide", err)
		}
		old, fresh := Sides(h)
		if len(old) != lines || len(fresh) != lines {
			t.Error("sides", len(old), len(fresh))
		}
		s, err := Script([]api.Hunk{h}, lines, lines)
		if err != nil || !slices.Equal(s, script([4]int{0, lines, 0, lines})) {
			t.Error("script", s, err)
		}
	})
}
