package edits

import (
	"fmt"
	"selvage/api"
	"slices"
	"testing"
)

// roomy is a list with spare room behind it, all of it filled.
func roomy[T any](list []T, spare T) []T {
	long := append(slices.Clone(list), spare, spare, spare)
	return long[:len(list)]
}

// scribble writes over a list, and over the room behind it.
func scribble[T any](list []T, with T) {
	list = list[:cap(list)]
	for i := range list {
		list[i] = with
	}
}

// call is one call's answers: as text, and a way to write over them.
type call struct {
	name   string
	answer func() (string, func())
}

// handed is what calls are handed.
type handed struct {
	s, t  []api.Change
	a, b  []int
	pairs [][2]int
}

var (
	oddChange = api.Change{A: 77, N: 77, B: 77, M: 77}
	oddPair   = [2]int{77, 77}
)

// someHanded is a script from 5 lines to 4 with lists, one from 4 lines to 5, and pairs, all with spare room.
func someHanded() handed {
	return handed{
		s:     roomy(script([4]int{0, 1, 0, 0}, [4]int{1, 1, 0, 1}, [4]int{4, 1, 3, 1}), oddChange),
		t:     roomy(script([4]int{1, 1, 1, 2}), oddChange),
		a:     roomy([]int{7, 8, 3, 4, 9}, 77),
		b:     roomy([]int{9, 3, 4, 7}, 77),
		pairs: roomy([][2]int{{0, 1}, {3, 2}}, oddPair),
	}
}

// calls are all calls, with what is handed to them.
func (h handed) calls() []call {
	ofChanges := func(list []api.Change, err error) (string, func()) {
		return fmt.Sprint(list, err), func() { scribble(list, oddChange) }
	}
	return []call{
		{"Valid", func() (string, func()) { return fmt.Sprint(Valid(h.s, 5, 4)), func() {} }},
		{"Normal", func() (string, func()) { return ofChanges(Normal(h.s, 5, 4)) }},
		{"Normal of what is normal", func() (string, func()) { return ofChanges(Normal(h.t, 4, 5)) }},
		{"Fits", func() (string, func()) { return fmt.Sprint(Fits(h.s, h.a, h.b)), func() {} }},
		{"Apply", func() (string, func()) {
			list, err := Apply(h.s, h.a, h.b)
			return fmt.Sprint(list, err), func() { scribble(list, 66) }
		}},
		{"Apply without changes", func() (string, func()) {
			list, err := Apply(nil, h.a, h.a)
			return fmt.Sprint(list, err), func() { scribble(list, 66) }
		}},
		{"Invert", func() (string, func()) { return ofChanges(Invert(h.s), nil) }},
		{"Pairs", func() (string, func()) {
			list, err := Pairs(h.s, 5, 4)
			return fmt.Sprint(list, err), func() { scribble(list, oddPair) }
		}},
		{"Of", func() (string, func()) { return ofChanges(Of(h.pairs, 5, 4)) }},
		{"Join", func() (string, func()) { return ofChanges(Join(h.s, h.t, 5, 4, 5)) }},
		{"Join with nothing", func() (string, func()) { return ofChanges(Join(h.s, nil, 5, 4, 4)) }},
		{"Join of nothing", func() (string, func()) { return ofChanges(Join(nil, h.s, 5, 5, 4)) }},
		{"Cost", func() (string, func()) {
			gone, come := Cost(h.s)
			return fmt.Sprint(gone, come), func() {}
		}},
		{"Moves", func() (string, func()) {
			list, err := Moves(h.s, h.a, h.b, 1)
			return fmt.Sprint(list, err), func() { scribble(list, Move{66, 66, 66}) }
		}},
		// with errors
		{"Normal of no script", func() (string, func()) { return ofChanges(Normal(h.s, 5, 5)) }},
		{"Of no lines", func() (string, func()) { return ofChanges(Of(h.pairs, 1, 1)) }},
	}
}

// E9, P2: what is handed in stays as it is, the room behind it too, whatever the caller does with what it was given.
func TestArgumentsStay(t *testing.T) {
	for i := range someHanded().calls() {
		h, was := someHanded(), someHanded()
		c := h.calls()[i]
		_, over := c.answer()
		over()
		same := slices.Equal(h.s[:cap(h.s)][:len(h.s)+3], was.s[:cap(was.s)][:len(was.s)+3]) &&
			slices.Equal(h.t[:len(h.t)+3], was.t[:len(was.t)+3]) &&
			slices.Equal(h.a[:len(h.a)+3], was.a[:len(was.a)+3]) &&
			slices.Equal(h.b[:len(h.b)+3], was.b[:len(was.b)+3]) &&
			slices.Equal(h.pairs[:len(h.pairs)+3], was.pairs[:len(was.pairs)+3])
		if !same {
			t.Errorf("%s: %v, not %v", c.name, h, was)
		}
	}
}

// E9, P2: what the caller writes, into what it was given and into what it handed in, is met by no later call and no other answer.
func TestAnswersAreTheCallers(t *testing.T) {
	for i := range someHanded().calls() {
		h := someHanded()
		c := h.calls()[i]
		first, over := c.answer()
		over()
		if again, _ := c.answer(); again != first {
			t.Errorf("%s: %s, then %s", c.name, first, again)
		}
		// another call, with the same lists
		for _, d := range h.calls() {
			want, over := d.answer()
			over()
			if fresh, _ := someHanded().calls()[slices.IndexFunc(h.calls(), func(e call) bool { return e.name == d.name })].answer(); fresh != want {
				t.Errorf("%s behind %s: %s, not %s", d.name, c.name, want, fresh)
			}
		}
	}
}

// E9, P2: answers do not change when the caller writes into what it handed in.
func TestAnswersAreNotArguments(t *testing.T) {
	h := someHanded()
	normal, _ := Normal(h.t, 4, 5)
	turned := Invert(h.s)
	made, _ := Apply(h.s, h.a, h.b)
	pairs, _ := Pairs(h.s, 5, 4)
	of, _ := Of(h.pairs, 5, 4)
	joined, _ := Join(h.s, h.t, 5, 4, 5)
	moves, _ := Moves(h.s, h.a, h.b, 1)
	text := func() string { return fmt.Sprint(normal, turned, made, pairs, of, joined, moves) }
	was := text()
	scribble(h.s, oddChange)
	scribble(h.t, oddChange)
	scribble(h.a, 55)
	scribble(h.b, 55)
	scribble(h.pairs, oddPair)
	if text() != was {
		t.Errorf("%s, not %s", text(), was)
	}
}

// P2: a list that is nil, and an empty one, are the same.
func TestNilIsEmpty(t *testing.T) {
	for _, c := range [][2]string{
		{fmt.Sprint(Normal(nil, 3, 3)), fmt.Sprint(Normal([]api.Change{}, 3, 3))},
		{fmt.Sprint(Apply(nil, nil, nil)), fmt.Sprint(Apply([]api.Change{}, []int{}, []int{}))},
		{fmt.Sprint(Invert(nil)), fmt.Sprint(Invert([]api.Change{}))},
		{fmt.Sprint(Pairs(nil, 2, 2)), fmt.Sprint(Pairs([]api.Change{}, 2, 2))},
		{fmt.Sprint(Of(nil, 2, 3)), fmt.Sprint(Of([][2]int{}, 2, 3))},
		{fmt.Sprint(Join(nil, nil, 2, 2, 2)), fmt.Sprint(Join([]api.Change{}, []api.Change{}, 2, 2, 2))},
		{fmt.Sprint(Moves(nil, nil, nil, 1)), fmt.Sprint(Moves([]api.Change{}, []int{}, []int{}, 1))},
		{fmt.Sprint(Fits(nil, nil, nil)), fmt.Sprint(Fits([]api.Change{}, []int{}, []int{}))},
	} {
		if c[0] != c[1] {
			t.Error(c)
		}
	}
}

// P2: answers hang on the arguments alone: the same call, with others between, answers the same.
func TestCallsStandAlone(t *testing.T) {
	next := steps(11)
	s, a, b := longer(&next, 200, 4)
	first, err := Moves(s, a, b, 2)
	isErr(t, "Moves", err, nil)
	for range 20 {
		u, c, d := longer(&next, 60, 3)
		if _, err := Moves(u, c, d, 1); err != nil {
			t.Error(err)
		}
		again, err := Moves(s, a, b, 2)
		if err != nil || !slices.Equal(again, first) {
			t.Fatal(again, err)
		}
	}
	done := make(chan []Move)
	for range 8 {
		go func() {
			moves, _ := Moves(s, a, b, 2)
			done <- moves
		}()
	}
	for range 8 {
		if moves := <-done; !slices.Equal(moves, first) {
			t.Error("at the same time:", moves)
		}
	}
}
