package slide

import (
	"math"
	"selvage/api"
	"selvage/edits"
	"slices"
	"testing"
)

// SL1: the chapter's examples.
func TestExamples(t *testing.T) {
	slides(t, script([4]int{1, 1, 1, 0}), []int{1, 2, 2, 3}, []int{1, 2, 3}, script([4]int{2, 1, 2, 0}))
	slides(t, script([4]int{0, 2, 0, 0}), []int{1, 2, 1, 2, 3}, []int{1, 2, 3}, script([4]int{2, 2, 2, 0}))
}

// SL1: changes that only delete, and, the other way round, that only insert.
func TestOneChange(t *testing.T) {
	for _, c := range []struct {
		name    string
		s       [4]int
		a, b    []int
		further int
	}{
		{"nothing behind it is like it", [4]int{1, 1, 1, 0}, []int{1, 2, 3, 2}, []int{1, 3, 2}, 0},
		{"by one", [4]int{1, 1, 1, 0}, []int{1, 2, 2, 3}, []int{1, 2, 3}, 1},
		{"from the very beginning to the very end", [4]int{0, 1, 0, 0}, []int{5, 5, 5, 5}, []int{5, 5, 5}, 3},
		{"at the very end", [4]int{3, 1, 3, 0}, []int{5, 5, 5, 5}, []int{5, 5, 5}, 0},
		{"at the very beginning", [4]int{0, 2, 0, 0}, []int{1, 2, 3, 1}, []int{3, 1}, 0},
		{"all there is", [4]int{0, 3, 0, 0}, []int{5, 5, 5}, nil, 0},
		{"by a part of itself", [4]int{0, 3, 0, 0}, []int{1, 2, 3, 1, 2, 4}, []int{1, 2, 4}, 2},
		{"by more than itself", [4]int{0, 2, 0, 0}, []int{1, 2, 1, 2, 1, 2, 1, 3}, []int{1, 2, 1, 2, 1, 3}, 5},
		{"two of the same, and one behind", [4]int{1, 2, 1, 0}, []int{9, 1, 1, 1, 2}, []int{9, 1, 2}, 1},
		{"its second number alone stands behind it", [4]int{0, 2, 0, 0}, []int{1, 2, 2, 2}, []int{2, 2}, 0},
	} {
		moved := c.s
		moved[0] += c.further
		moved[2] += c.further
		slides(t, script(c.s), c.a, c.b, script(moved))
		turned := edits.Invert(script(c.s))
		slides(t, turned, c.b, c.a, edits.Invert(script(moved)))
		if t.Failed() {
			t.Fatal(c.name)
		}
	}
}

// SL1: a change that does both never slides.
func TestBothStays(t *testing.T) {
	slides(t, script([4]int{0, 1, 0, 1}), []int{5, 5, 5}, []int{5, 5, 5}, script([4]int{0, 1, 0, 1}))
	slides(t, script([4]int{0, 2, 0, 1}), []int{5, 5, 5}, []int{5, 5}, script([4]int{0, 2, 0, 1}))
	slides(t, script([4]int{1, 1, 1, 2}), []int{5, 5, 5}, []int{5, 5, 5, 5}, script([4]int{1, 1, 1, 2}))
	slides(t, script([4]int{0, 1, 0, 1}, [4]int{2, 1, 2, 1}), []int{1, 1, 1, 1}, []int{1, 1, 1, 1}, script([4]int{0, 1, 0, 1}, [4]int{2, 1, 2, 1}))
}

// SL1: no changes, and no rows.
func TestEmpty(t *testing.T) {
	slides(t, nil, nil, nil, nil)
	slides(t, []api.Change{}, []int{}, []int{}, nil)
	slides(t, nil, []int{3, 3}, []int{3, 3}, nil)
	slides(t, script([4]int{0, 2, 0, 0}), []int{3, 3}, nil, script([4]int{0, 2, 0, 0}))
	slides(t, script([4]int{0, 0, 0, 2}), nil, []int{3, 3}, script([4]int{0, 0, 0, 2}))
}

// SL1: changes that slide up to the next one become one with it.
func TestMeeting(t *testing.T) {
	for _, c := range []struct {
		name string
		s    []api.Change
		a, b []int
		want []api.Change
	}{
		{"two deletions, which then could slide on", script([4]int{0, 1, 0, 0}, [4]int{2, 2, 1, 0}), []int{1, 1, 1, 2, 1, 3}, []int{1, 1, 3},
			// the second slides to 3, the first to 2
			script([4]int{2, 3, 2, 0})},
		{"the one that slid and met slides no more", script([4]int{0, 1, 0, 0}, [4]int{2, 1, 1, 1}), []int{7, 7, 8, 7}, []int{7, 9, 7}, script([4]int{1, 2, 1, 1})},
		{"a deletion up to an insertion", script([4]int{0, 1, 0, 0}, [4]int{2, 0, 1, 1}), []int{4, 4, 5}, []int{4, 6, 5}, script([4]int{1, 1, 1, 1})},
		{"an insertion up to a deletion", script([4]int{0, 0, 0, 1}, [4]int{1, 1, 2, 0}), []int{4, 6, 5}, []int{4, 4, 5}, script([4]int{1, 1, 1, 1})},
		{"an insertion up to an insertion", script([4]int{0, 0, 0, 1}, [4]int{1, 0, 2, 1}), []int{4, 5}, []int{4, 4, 6, 5}, script([4]int{1, 0, 1, 2})},
		{"one of both stays, and the one ahead of it comes", script([4]int{0, 1, 0, 0}, [4]int{3, 1, 2, 1}), []int{1, 1, 1, 2}, []int{1, 1, 3}, script([4]int{2, 2, 2, 1})},
		{"not quite up to it", script([4]int{0, 1, 0, 0}, [4]int{3, 1, 2, 0}), []int{1, 1, 2, 3, 4}, []int{1, 2, 4}, script([4]int{1, 1, 1, 0}, [4]int{3, 1, 2, 0})},
		{"as far as where the next one slid from, and on", script([4]int{0, 1, 0, 0}, [4]int{2, 1, 1, 0}), []int{1, 1, 1, 1, 1, 2}, []int{1, 1, 1, 2}, script([4]int{3, 2, 3, 0})},
		{"three, the first up to the two that met", script([4]int{0, 1, 0, 0}, [4]int{2, 1, 1, 0}, [4]int{4, 1, 2, 0}), []int{1, 1, 1, 1, 1, 1}, []int{1, 1, 1}, script([4]int{3, 3, 3, 0})},
		{"three, the first up to a deletion of two that met and may not slide", script([4]int{0, 1, 0, 0}, [4]int{2, 1, 1, 0}, [4]int{4, 1, 2, 0}), []int{7, 7, 7, 7, 8, 7}, []int{7, 7, 7}, script([4]int{2, 3, 2, 0})},
	} {
		for _, way := range []string{"there", "the other way round"} {
			got, err := Slide(c.s, c.a, c.b)
			if err != nil || !slices.Equal(got, c.want) {
				t.Errorf("%s, %s: %v, %v, not %v", c.name, way, got, err, c.want)
			}
			if plain := plainSlide(c.s, c.a, c.b); !slices.Equal(plain, c.want) {
				t.Errorf("%s, %s: step by step %v, not %v", c.name, way, plain, c.want)
			}
			c.s, c.a, c.b, c.want = edits.Invert(c.s), c.b, c.a, edits.Invert(c.want)
		}
	}
}

// SL1: two deletions that became one stay where they met, though what they are now could slide on; Slide again lets it.
func TestMetSlidesNoMore(t *testing.T) {
	// The deletion of 4 1 cannot slide, that of 1 3 can by one, up to it; 3 1 4 1 then has a 3 behind it.
	a := []int{1, 3, 1, 4, 1, 3}
	b := []int{1, 3}
	s := script([4]int{0, 2, 0, 0}, [4]int{3, 2, 1, 0})
	met := script([4]int{1, 4, 1, 0})
	slides(t, s, a, b, met)
	slides(t, met, a, b, script([4]int{2, 4, 2, 0}))
	slides(t, edits.Invert(s), b, a, edits.Invert(met))
	slides(t, edits.Invert(met), b, a, script([4]int{2, 0, 2, 4}))
	if got := keeps(t, s, a, b); cost(got) != [2]int{4, 0} {
		t.Error(got)
	}
}

// SL1: changes that touch are taken as one ahead of sliding.
func TestTouching(t *testing.T) {
	a, b := []int{1, 2, 1, 2, 3}, []int{1, 2, 3}
	slides(t, script([4]int{0, 1, 0, 0}, [4]int{1, 1, 0, 0}), a, b, script([4]int{2, 2, 2, 0}))
	// apart, the second one would slide on; as one they do both, and stay
	slides(t, script([4]int{0, 0, 0, 1}, [4]int{0, 1, 1, 0}), []int{4, 4}, []int{4, 4}, script([4]int{0, 1, 0, 1}))
	slides(t, script([4]int{0, 1, 0, 0}, [4]int{1, 0, 0, 1}, [4]int{1, 1, 1, 0}), []int{4, 4, 4}, []int{4, 4}, script([4]int{0, 2, 0, 1}))
}

// SL1, P1: what is no script, or does not fit.
func TestSlideErrors(t *testing.T) {
	ones := []int{1, 1, 1}
	for _, c := range []struct {
		name string
		s    []api.Change
		a, b []int
		want error
	}{
		{"nothing, between unlike lengths", nil, ones, ones[:2], api.ErrEdit},
		{"a change of nothing", script([4]int{0, 0, 0, 0}), ones, ones, api.ErrEdit},
		{"a change of nothing behind one", script([4]int{0, 1, 0, 0}, [4]int{2, 0, 1, 0}), ones, ones[:2], api.ErrEdit},
		{"below 0", script([4]int{-1, 1, -1, 0}), ones, ones[:2], api.ErrEdit},
		{"fewer than none", script([4]int{1, -1, 1, 0}), ones, []int{1, 1, 1, 1}, api.ErrEdit},
		{"beyond the end", script([4]int{3, 1, 3, 0}), ones, ones[:2], api.ErrEdit},
		{"places that are not as far on", script([4]int{1, 1, 0, 0}), ones, ones[:2], api.ErrEdit},
		{"not in order", script([4]int{2, 1, 2, 0}, [4]int{0, 1, 0, 0}), ones, ones[:1], api.ErrEdit},
		{"one over the other", script([4]int{0, 2, 0, 0}, [4]int{1, 1, 0, 0}), ones, nil, api.ErrEdit},
		{"too many lines behind", script([4]int{0, 1, 0, 0}), ones, ones, api.ErrEdit},
		{"the greatest numbers", script([4]int{math.MaxInt, math.MaxInt, math.MaxInt, math.MaxInt}), ones, ones, api.ErrEdit},
		{"the least numbers", script([4]int{math.MinInt, math.MinInt, math.MinInt, math.MinInt}), ones, ones, api.ErrEdit},
		{"sums that wrap round", script([4]int{1, math.MaxInt, 1, math.MaxInt}), ones, ones, api.ErrEdit},
		{"what stays is not the same", nil, ones, []int{1, 2, 1}, api.ErrApply},
		{"ahead of a change", script([4]int{1, 1, 1, 0}), ones, []int{2, 1}, api.ErrApply},
		{"behind a change", script([4]int{1, 1, 1, 0}), ones, []int{1, 2}, api.ErrApply},
		{"no script, and it would not fit", script([4]int{0, 1, 0, 0}), ones, []int{2, 2, 2}, api.ErrEdit},
		{"a row that is too long", nil, make([]int, api.MaxBytes+1), make([]int, api.MaxBytes+1), api.ErrArg},
		{"a row that is too long, and no script", script([4]int{0, 0, 0, 0}), make([]int, api.MaxBytes+1), nil, api.ErrArg},
		{"a row to come that is too long", script([4]int{0, 0, 0, api.MaxBytes + 1}), nil, make([]int, api.MaxBytes+1), api.ErrArg},
	} {
		got, err := Slide(c.s, c.a, c.b)
		failed(t, c.name, got, err, c.want)
		if fits := edits.Fits(c.s, c.a, c.b); fits != err {
			t.Errorf("%s: %v, and Fits %v", c.name, err, fits)
		}
	}
}

// SL1, SL3: all small rows, with all scripts between them: of rows that are not quite as small, those that are normal.
func TestAllSmall(t *testing.T) {
	for _, part := range []struct {
		most, kinds int
		normal      bool
	}{{3, 3, false}, {4, 2, false}, {4, 3, true}, {5, 2, true}} {
		between := scriptsBetween(part.most, part.normal)
		all := rows(part.most, part.kinds)
		for _, a := range all {
			for _, b := range all {
				for _, s := range between[[2]int{len(a), len(b)}] {
					slidesAsTold(t, s, a, b)
				}
			}
		}
	}
}

// slidesAsTold fails where Slide answers otherwise than step by step, of a script that fits or does not.
func slidesAsTold(t *testing.T, s []api.Change, a, b []int) {
	t.Helper()
	if !plainFits(s, a, b) {
		got, err := Slide(s, a, b)
		failed(t, "a script that does not fit", got, err, api.ErrApply)
		return
	}
	want := plainSlide(s, a, b)
	if got := keeps(t, s, a, b); !slices.Equal(got, want) {
		t.Fatalf("%v of %v, %v: %v, not %v", s, a, b, got, want)
	}
}

// SL1, SL3: deletions out of all rows of somewhat more numbers, and, the other way round, insertions: any of the numbers may go.
func TestAllDeletions(t *testing.T) {
	for _, a := range rows(9, 2) {
		for gone := range 1 << len(a) {
			var s []api.Change
			var b []int
			for x, v := range a {
				if gone>>x&1 == 1 {
					s = append(s, api.Change{A: x, N: 1, B: len(b)})
				} else {
					b = append(b, v)
				}
			}
			want := plainSlide(s, a, b)
			slides(t, s, a, b, want)
			slides(t, edits.Invert(s), b, a, edits.Invert(want))
			if t.Failed() {
				return
			}
		}
	}
}

// SL1, SL3: longer rows, in which much is repeated, so that changes slide over what others slid over, meet and are barred.
func TestManyRows(t *testing.T) {
	next := steps(5)
	for range 20000 {
		a := next.repeated(1+next.below(120), 1+next.below(3))
		s, b := next.changed(a, 2+next.below(12), 1+next.below(9))
		slidesAsTold(t, s, a, b)
	}
}

// SL1: the numbers themselves mean nothing.
func TestAnyNumbers(t *testing.T) {
	a := []int{math.MinInt, math.MaxInt, math.MinInt, math.MaxInt, -1}
	slides(t, script([4]int{0, 2, 0, 0}), a, a[2:], script([4]int{2, 2, 2, 0}))
	slides(t, script([4]int{0, 0, 0, 2}), a[2:], a, script([4]int{2, 0, 2, 2}))
}

// SL1, SL3: rows and scripts of thousands.
func TestThousands(t *testing.T) {
	next := steps(7)
	for _, every := range []int{2, 5, 40} {
		for _, kinds := range []int{1, 2, 50} {
			a := next.repeated(6000, kinds)
			s, b := next.changed(a, every, 6)
			got, err := Slide(s, a, b)
			if want := plainSlide(s, a, b); err != nil || !slices.Equal(got, want) {
				t.Errorf("every %d, %d kinds: %d changes, %v, not %d", every, kinds, len(got), err, len(want))
			}
			keeps(t, s, a, b)
		}
	}
}
