package apply

import (
	"math"
	"selvage/api"
	"slices"
	"strconv"
	"testing"
	"time"
)

// soon fails where a call takes long.
func soon(t *testing.T, what string, call func()) {
	t.Helper()
	done := make(chan struct{})
	go func() {
		defer close(done)
		call()
	}()
	select {
	case <-done:
	case <-time.After(30 * time.Second):
		t.Fatal(what, "takes too long")
	}
}

// unlike are so many lines, no two alike.
func unlike(n int) []string {
	l := make([]string, n)
	for i := range l {
		l[i] = strconv.Itoa(i) + "\n"
	}
	return l
}

// alike are so many rows of one kind and one line.
func alike(kind, n int, line string) []api.Row {
	return slices.Repeat([]api.Row{{Kind: kind, Text: line}}, n)
}

// ofRows is a hunk of rows, at the line at of the old text.
func ofRows(at int, rows ...api.Row) api.Hunk {
	return api.Hunk{A: at, N: len(sideByWords(rows, api.RowOld)), B: at, M: len(sideByWords(rows, api.RowNew)), Rows: rows}
}

// P1, AP1: one long hunk in a text of lines that are all alike but for a few, so that it matches nearly everywhere.
func TestLongHunksEndSoon(t *testing.T) {
	const lines, half = api.MaxBytes, api.MaxBytes / 4
	old := slices.Repeat([]string{"a\n"}, lines)
	old[lines-1] = "b\n"
	h := ofRows(1, append(alike(api.RowOld, half, "a\n"), api.Row{Kind: api.RowOld, Text: "b\n"})...)
	for _, offset := range []int{0, 5, lines / 2, lines, math.MaxInt, math.MinInt} {
		soon(t, "a long hunk", func() {
			if place, _, found := Find(old, h, 0, offset, 3); place != lines-1-half || !found {
				t.Error(place, found)
			}
		})
	}
	// with a line that is there once, but in another place
	h.Rows[half-9].Text, h.Rows[half].Text = "b\n", "a\n"
	soon(t, "a long hunk that is nowhere", func() {
		if place, _, found := Find(old, h, 0, lines/2, 3); found {
			t.Error(place)
		}
	})
	soon(t, "a hunk of all lines", func() {
		all := ofRows(1, append(alike(api.RowBoth, lines-1, "a\n"), api.Row{Kind: api.RowOld, Text: "b\n"})...)
		made, hits, rejects, err := Apply(old, one(all), 3)
		if len(made) != lines-1 || len(hits) != 1 || len(rejects) > 0 || err != nil || !Already(made, one(all)) {
			t.Error(len(made), hits, rejects, err)
		}
	})
}

// everyFourth are hunks that take each fourth line of some, told as so many lines off, and bring two others.
func everyFourth(old []string, off int) []api.Hunk {
	var l []api.Hunk
	for at := 0; at < len(old); at += 4 {
		h := ofRows(at+1+off, api.Row{Kind: api.RowOld, Text: old[at]}, api.Row{Kind: api.RowNew, Text: "x\n"}, api.Row{Kind: api.RowNew, Text: "y\n"})
		h.B += len(l)
		l = append(l, h)
	}
	return l
}

// P1, AP2, AP3, AP5: hundreds of thousands of hunks, at their places, off by some lines, and off by more each time.
func TestManyHunksEndSoon(t *testing.T) {
	const lines = 1 << 20
	for _, c := range []struct {
		old []string
		off int
	}{{unlike(lines), 0}, {unlike(lines), 100}, {slices.Repeat([]string{"a\n"}, lines), 0}} {
		l := everyFourth(c.old, c.off)
		soon(t, "many hunks", func() {
			made, hits, rejects, err := Apply(c.old, l, 3)
			if len(made) != lines/4*5 || len(hits) != len(l) || len(rejects) > 0 || err != nil {
				t.Error(len(made), len(hits), len(rejects), err)
			}
			if Already(made, l) != (c.off == 0) {
				t.Error("they are told as applied, or not, with the offset", c.off)
			}
		})
	}
	old := unlike(lines)
	l := everyFourth(old, 0)
	soon(t, "many hunks and nothing", func() {
		combined, err := Combine(old, l, nil, 1)
		if err != nil || len(combined) != len(l) {
			t.Error(len(combined), err)
		}
	})
	for i := range l {
		l[i].A += i
	}
	soon(t, "hunks off by more and more", func() {
		_, hits, rejects, err := Apply(old, l, 0)
		if len(hits) != len(l) || hits[len(l)-1].Offset != 1-len(l) || len(rejects) > 0 || err != nil {
			t.Error(len(hits), len(rejects), err)
		}
	})
}

// P1, AP2: as many hunks that are nowhere: whose line is not there, or not any more.
func TestManyRejectsEndSoon(t *testing.T) {
	const lines = 1 << 18
	old := unlike(lines)
	takes := func(at int) api.Hunk { return ofRows(at+1, api.Row{Kind: api.RowOld, Text: old[at]}) }
	lost := slices.Repeat(one(hunk(1, 1, " a", " b", " c", "-d", " e")), lines)
	gone := one(takes(lines / 2))
	for at := range lines / 2 {
		gone = append(gone, takes(at))
	}
	for _, l := range [][]api.Hunk{lost, gone} {
		soon(t, "many rejects", func() {
			_, hits, rejects, err := Apply(old, l, 3)
			if len(hits)+len(rejects) != len(l) || len(hits) > 1 || err != nil {
				t.Error(len(hits), len(rejects), err)
			}
		})
	}
	// a line that is there in great number, in an order that is not
	old = slices.Repeat(textOf("ab"), lines/2)
	l := slices.Repeat(one(hunk(1, 1, " a", " b", " b", "-a", " b")), 100)
	soon(t, "rejects that nearly match", func() {
		_, hits, rejects, err := Apply(old, l, 0)
		if len(hits) > 0 || len(rejects) != len(l) || err != nil {
			t.Error(len(hits), len(rejects), err)
		}
	})
}
