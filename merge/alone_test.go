package merge

import (
	"errors"
	"fmt"
	"math"
	"selvage/api"
	"selvage/lines"
	"slices"
	"strings"
	"testing"
)

// scribble writes over a list, and over the room behind it.
func scribble[T any](list []T, with T) {
	list = list[:cap(list)]
	for i := range list {
		list[i] = with
	}
}

// roomy is a list with spare room behind it, all of it filled.
func roomy[T any](list []T, spare T) []T {
	long := append(slices.Clone(list), spare, spare, spare)
	return long[:len(list)]
}

// handed is what calls are handed, each list with spare room.
type handed struct {
	given
	labels []string
}

// someHanded are three texts with chunks of each kind; the scripts are not normal.
func someHanded() handed {
	g := of("123456789|",
		[]put{{0, 1, "x"}, {4, 1, "x"}, {5, 1, ""}, {8, 1, "z|"}},
		[]put{{2, 1, "yy"}, {4, 1, "y"}, {8, 1, "z|"}})
	spare := api.Change{A: 9, N: 9, B: 9, M: 9}
	for _, x := range []*side{&g.mine, &g.yours} {
		*x = side{roomy(x.s, spare), roomy(x.lines, "spare\n")}
	}
	g.base = roomy(g.base, "spare\n")
	return handed{g, roomy(myLabels(), "spare")}
}

// text is all that is handed, with its spare room.
func (h handed) text() string {
	text := fmt.Sprint(h.mine.s[:cap(h.mine.s)], h.yours.s[:cap(h.yours.s)])
	for _, l := range [][]string{h.base, h.mine.lines, h.yours.lines, h.labels} {
		text += fmt.Sprintf(" %q", l[:cap(l)])
	}
	return text
}

// scribble writes over all that is handed.
func (h handed) scribble() {
	for _, l := range [][]string{h.base, h.mine.lines, h.yours.lines, h.labels} {
		scribble(l, "over\n")
	}
	for _, s := range [][]api.Change{h.mine.s, h.yours.s} {
		scribble(s, api.Change{A: 6, N: 6, B: 6, M: 6})
	}
}

// asked is a call's answer, as a text that is made when it is asked for, and a way to write over it.
type asked struct {
	text func() string
	over func()
}

// askChunks asks Chunks.
func askChunks(g given) asked {
	l, err := g.chunks()
	return asked{func() string { return fmt.Sprint(l, err) }, func() { scribble(l, Chunk{6, 6, 6, 6, 6, 6, 6}) }}
}

// askOnto asks Onto.
func askOnto(g given, labels []string, format int) asked {
	s, l, err := g.onto(labels, format)
	return asked{
		func() string { return fmt.Sprintf("%v %q %v", s, l, err) },
		func() {
			scribble(s, api.Change{A: 6, N: 6, B: 6, M: 6})
			scribble(l, "over\n")
		},
	}
}

// askTexts asks Merge and Diff3.
func askTexts(g given, labels []string, format int) asked {
	text, n, err := g.merge(labels, format)
	told, tellErr := g.diff3()
	all := fmt.Sprintf("%q %d %v %q %v", text, n, err, told, tellErr)
	return asked{func() string { return all }, func() {}}
}

// calls are all calls, with what is handed to them.
func (h handed) calls() []func() asked {
	var calls []func() asked
	for _, g := range []given{
		h.given,
		h.exchanged(),
		{h.base, side{nil, h.base}, h.yours},
		{h.base, h.mine, side{nil, h.base}},
		{h.base, h.mine, h.mine},
		{h.base, side{h.mine.s, h.yours.lines}, h.yours},
		{h.base, side{nil, h.mine.lines}, h.yours},
		{h.labels, h.mine, h.yours},
	} {
		calls = append(calls, func() asked { return askChunks(g) })
		for format := range formatYours + 2 {
			calls = append(calls,
				func() asked { return askTexts(g, h.labels, format) },
				func() asked { return askOnto(g, h.labels, format) },
				func() asked { return askOnto(g, h.labels[:2], format) },
			)
		}
	}
	return calls
}

// P2: what is handed in stays as it is, the room behind it too, whatever the caller does with what it was given.
func TestArgumentsStay(t *testing.T) {
	was := someHanded().text()
	for i := range someHanded().calls() {
		h := someHanded()
		h.calls()[i]().over()
		if h.text() != was {
			t.Errorf("call %d: %s, not %s", i, h.text(), was)
		}
	}
}

// P2: what the caller writes into an answer is met by no later call, and what it writes into what it handed in by no answer.
func TestAnswersAreTheCallers(t *testing.T) {
	for i := range someHanded().calls() {
		h := someHanded()
		c := h.calls()[i]
		first := c()
		was := first.text()
		first.over()
		again := c()
		if again.text() != was {
			t.Errorf("call %d: %s, then %s", i, was, again.text())
		}
		for k, d := range h.calls() {
			other := d()
			if got, want := other.text(), someHanded().calls()[k]().text(); got != want {
				t.Errorf("call %d behind %d: %s, not %s", k, i, got, want)
			}
			other.over()
		}
		h.scribble()
		if again.text() != was {
			t.Errorf("call %d: %s has become %s", i, was, again.text())
		}
	}
}

// P2: the lines that Onto answers are no text's that was handed in, though they are the same.
func TestOntosLinesAreNew(t *testing.T) {
	l := textOf("123")
	g := given{l, side{nil, l}, side{nil, l}}
	for format := formatTwo; format <= formatYours; format++ {
		_, got, err := g.onto(myLabels(), format)
		isErr(t, "Onto", err, nil)
		scribble(got, "over\n")
		if !slices.Equal(l, textOf("123")) {
			t.Fatalf("format %d: %q", format, l)
		}
	}
}

// P2: a list that is nil, and an empty one, are the same.
func TestNilIsEmpty(t *testing.T) {
	none := func(x []string) side { return side{[]api.Change{}, x} }
	for _, c := range [][2]given{
		{{}, {[]string{}, none([]string{}), none([]string{})}},
		{{textOf("1"), side{nil, textOf("1")}, side{nil, textOf("1")}}, {textOf("1"), none(textOf("1")), none(textOf("1"))}},
		{{nil, made("", put{0, 0, "x"}), side{}}, {[]string{}, made("", put{0, 0, "x"}), none([]string{})}},
		{{textOf("1"), side{change0(), nil}, side{nil, textOf("1")}}, {textOf("1"), side{change0(), []string{}}, none(textOf("1"))}},
	} {
		if got, want := fmt.Sprint(all(c[1])...), fmt.Sprint(all(c[0])...); got != want {
			t.Errorf("%s, not %s", got, want)
		}
	}
	fails(t, "no labels", given{}, nil, formatTwo, api.ErrWords, true)
	fails(t, "empty labels", given{}, []string{}, formatTwo, api.ErrWords, true)
}

// change0 is the script by which the one line there is goes.
func change0() []api.Change {
	return script([4]int{0, 1, 0, 0})
}

// P2: answers hang on the arguments alone: at the same time, too.
func TestCallsStandAlone(t *testing.T) {
	h := someHanded()
	everything := func() string {
		text := ""
		for _, c := range h.calls() {
			text += c().text()
		}
		return text
	}
	want := everything()
	done := make(chan string)
	for range 8 {
		go func() {
			for range 30 {
				if got := everything(); got != want {
					done <- got
					return
				}
			}
			done <- ""
		}()
	}
	for range 8 {
		if fault := <-done; fault != "" {
			t.Error("at the same time:", fault)
		}
	}
}

// oddities makes what looks like what calls are given, and often is not.
type oddities struct {
	steps
}

// text is a list that often is a text's lines.
func (o *oddities) text() []string {
	if o.below(4) > 0 {
		return textOf("111122|"[:o.below(8)])
	}
	texts := []string{"", "a", "a\n", "a\n", "b\n", "b\n", "\n\n", "a\nb"}
	var l []string
	for range o.below(4) {
		l = append(l, texts[o.below(len(texts))])
	}
	return l
}

// number is one that is small, or one of the greatest or least.
func (o *oddities) number() int {
	if o.below(8) > 0 {
		return o.below(4)
	}
	numbers := []int{math.MinInt, math.MinInt + 1, -1, api.MaxBytes, api.MaxNumber, math.MaxInt - 1, math.MaxInt}
	return numbers[o.below(len(numbers))]
}

// side is a side of a base: one that is, sometimes but for a line, or one that may not be.
func (o *oddities) side(base []string) side {
	if o.below(2) > 0 && lines.Valid(base) {
		x := randomSide(&o.steps, base, "12x")
		if len(x.lines) > 0 && o.below(6) == 0 {
			x.lines[o.below(len(x.lines))] = "y\n"
		}
		return x
	}
	x := side{lines: o.text()}
	for range o.below(3) {
		x.s = append(x.s, api.Change{A: o.number(), N: o.number(), B: o.number(), M: o.number()})
	}
	return x
}

// labels are three, mostly, and such as may be, mostly.
func (o *oddities) labels() []string {
	if o.below(4) > 0 {
		return myLabels()
	}
	some := []string{"", "a", "a\n", "\n", strings.Repeat("a", api.MaxPath), strings.Repeat("a", api.MaxPath+1)}
	var l []string
	for range o.below(5) {
		l = append(l, some[o.below(len(some))])
	}
	return l
}

// P1: no call panics, whatever it is given; each error is the one that the chapter names first, with nothing beside it.
func TestNothingPanics(t *testing.T) {
	o := oddities{steps(7)}
	met := map[error]int{}
	for range 100000 {
		base := o.text()
		g := given{base, o.side(base), o.side(base)}
		labels, format := o.labels(), 1+o.below(5)
		if o.below(8) == 0 {
			format = o.number()
		}
		want := mergeErrByWords(g, labels, format)
		fault := errByWords(g)
		met[want]++
		if want != nil {
			fails(t, "odd", g, labels, format, want, want != fault)
		}
		_, err := g.chunks()
		isErr(t, "Chunks", err, fault)
		_, err = g.diff3()
		isErr(t, "Diff3", err, fault)
		if want == nil {
			agrees(t, g, labels)
		}
		if t.Failed() {
			return
		}
	}
	for _, err := range []error{nil, api.ErrArg, api.ErrWords, api.ErrName, api.ErrForm, api.ErrEdit, api.ErrApply} {
		if met[err] < 500 {
			t.Error("only", met[err], "of", err)
		}
	}
}

// P1: each error is an api.Errno, or wraps one.
func TestErrorsAreErrnos(t *testing.T) {
	l := textOf("1")
	for _, g := range []given{
		{[]string{""}, side{}, side{}},
		{l, side{}, side{nil, l}},
		{l, side{nil, textOf("x")}, side{nil, l}},
	} {
		for format := range 3 {
			_, _, err := g.merge(myLabels(), format)
			var n api.Errno
			if !errors.As(err, &n) {
				t.Errorf("%v: %v", g, err)
			}
		}
	}
}

// P1: long texts with many changes end soon, whatever meets what.
func TestManyChanges(t *testing.T) {
	const n = 1 << 17
	base := strings.SplitAfter(strings.Repeat("1\n", n), "\n")[:n]
	every := func(first, step int, come string) side {
		x := side{lines: slices.Clone(base)}
		for i := first; i < n; i += step {
			x.s = append(x.s, api.Change{A: i, N: 1, B: i, M: 1})
			x.lines[i] = come
		}
		return x
	}
	for _, c := range []struct {
		what        string
		mine, yours side
		chunks      int
		clashes     int
	}{
		{"apart, by turns", every(0, 4, "x\n"), every(2, 4, "y\n"), n, 0},
		{"one row of all", every(0, 2, "x\n"), every(1, 2, "y\n"), 1, 1},
		{"clashes", every(0, 2, "x\n"), every(0, 2, "y\n"), n, n / 2},
		{"alike", every(0, 2, "x\n"), every(0, 2, "x\n"), n, 0},
		{"pairs that touch", every(0, 4, "x\n"), every(1, 4, "y\n"), n / 2, n / 4},
		{"one change of all", side{script([4]int{0, n, 0, 1}), []string{"x\n"}}, every(0, 2, "y\n"), 1, 1},
	} {
		g := given{base, c.mine, c.yours}
		got, err := g.chunks()
		if err != nil || len(got) != c.chunks {
			t.Errorf("%s: %d chunks, %v", c.what, len(got), err)
		}
		if _, clashes, err := g.merge(myLabels(), formatThree); err != nil || clashes != c.clashes {
			t.Errorf("%s: %d clashes, %v", c.what, clashes, err)
		}
		if s, _, err := g.onto(myLabels(), formatMine); err != nil || c.clashes > 0 && len(s) > 0 {
			t.Errorf("%s: %d changes, %v", c.what, len(s), err)
		}
		if _, err := g.diff3(); err != nil {
			t.Errorf("%s: %v", c.what, err)
		}
	}
}
