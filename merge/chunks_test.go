package merge

import (
	"selvage/api"
	"slices"
	"strings"
	"testing"
)

// chunk is a chunk by where it begins, and how many lines it has, in the base, in mine and in yours.
func chunk(kind int, base, mine, yours [2]int) Chunk {
	return Chunk{Kind: kind, Base: base[0], BaseN: base[1], Mine: mine[0], MineN: mine[1], Yours: yours[0], YourN: yours[1]}
}

// at is where a piece of a text begins, and how many lines it has.
func at(begin, n int) [2]int {
	return [2]int{begin, n}
}

// cutting is what Chunks is given and what it answers.
type cutting struct {
	what string
	g    given
	want []Chunk
}

// cutAll asks Chunks for all of these, and with mine and yours exchanged.
func cutAll(t *testing.T, all []cutting) {
	t.Helper()
	for _, c := range all {
		cuts(t, c.what, c.g, c.want...)
		cuts(t, c.what+", exchanged", c.g.exchanged(), exchangedChunks(c.want)...)
	}
}

// exchangedChunks are chunks with mine and yours exchanged.
func exchangedChunks(l []Chunk) []Chunk {
	var other []Chunk
	for _, c := range l {
		c.Mine, c.MineN, c.Yours, c.YourN = c.Yours, c.YourN, c.Mine, c.MineN
		switch c.Kind {
		case Mine:
			c.Kind = Yours
		case Yours:
			c.Kind = Mine
		}
		other = append(other, c)
	}
	return other
}

// ME1: where nobody changed anything there is at most one chunk, a calm one.
func TestChunksWithoutChanges(t *testing.T) {
	cutAll(t, []cutting{
		{"no texts", of("", nil, nil), nil},
		{"one line", of("1", nil, nil), []Chunk{chunk(Calm, at(0, 1), at(0, 1), at(0, 1))}},
		{"one line without its end", of("1|", nil, nil), []Chunk{chunk(Calm, at(0, 1), at(0, 1), at(0, 1))}},
		{"five lines", of("12345", nil, nil), []Chunk{chunk(Calm, at(0, 5), at(0, 5), at(0, 5))}},
	})
}

// ME1: changes of one side, one chunk each, with calm ones between, ahead and behind.
func TestChunksOfOneSide(t *testing.T) {
	cutAll(t, []cutting{
		{"a change in the middle", of("12345", []put{{1, 2, "x"}}, nil), []Chunk{
			chunk(Calm, at(0, 1), at(0, 1), at(0, 1)), chunk(Mine, at(1, 2), at(1, 1), at(1, 2)), chunk(Calm, at(3, 2), at(2, 2), at(3, 2)),
		}},
		{"at the beginning", of("12345", []put{{0, 1, "xy"}}, nil), []Chunk{
			chunk(Mine, at(0, 1), at(0, 2), at(0, 1)), chunk(Calm, at(1, 4), at(2, 4), at(1, 4)),
		}},
		{"at the end", of("12345", []put{{4, 1, "x"}}, nil), []Chunk{
			chunk(Calm, at(0, 4), at(0, 4), at(0, 4)), chunk(Mine, at(4, 1), at(4, 1), at(4, 1)),
		}},
		{"lines that come at the beginning", of("12", []put{{0, 0, "xyz"}}, nil), []Chunk{
			chunk(Mine, at(0, 0), at(0, 3), at(0, 0)), chunk(Calm, at(0, 2), at(3, 2), at(0, 2)),
		}},
		{"lines that come at the end", of("12", []put{{2, 0, "xyz"}}, nil), []Chunk{
			chunk(Calm, at(0, 2), at(0, 2), at(0, 2)), chunk(Mine, at(2, 0), at(2, 3), at(2, 0)),
		}},
		{"lines that go", of("12345", []put{{0, 1, ""}, {2, 1, ""}, {4, 1, ""}}, nil), []Chunk{
			chunk(Mine, at(0, 1), at(0, 0), at(0, 1)), chunk(Calm, at(1, 1), at(0, 1), at(1, 1)),
			chunk(Mine, at(2, 1), at(1, 0), at(2, 1)), chunk(Calm, at(3, 1), at(1, 1), at(3, 1)),
			chunk(Mine, at(4, 1), at(2, 0), at(4, 1)),
		}},
		{"all lines", of("123", []put{{0, 3, "x"}}, nil), []Chunk{chunk(Mine, at(0, 3), at(0, 1), at(0, 3))}},
		{"all lines go", of("123", []put{{0, 3, ""}}, nil), []Chunk{chunk(Mine, at(0, 3), at(0, 0), at(0, 3))}},
		{"lines come to no text", of("", []put{{0, 0, "xy|"}}, nil), []Chunk{chunk(Mine, at(0, 0), at(0, 2), at(0, 0))}},
		{"a line loses its end", of("12", []put{{1, 1, "2|"}}, nil), []Chunk{
			chunk(Calm, at(0, 1), at(0, 1), at(0, 1)), chunk(Mine, at(1, 1), at(1, 1), at(1, 1)),
		}},
		{"a line gets its end", of("12|", []put{{1, 1, "2"}}, nil), []Chunk{
			chunk(Calm, at(0, 1), at(0, 1), at(0, 1)), chunk(Mine, at(1, 1), at(1, 1), at(1, 1)),
		}},
		{"what comes is what goes", of("123", []put{{1, 1, "2"}}, nil), []Chunk{
			chunk(Calm, at(0, 1), at(0, 1), at(0, 1)), chunk(Mine, at(1, 1), at(1, 1), at(1, 1)), chunk(Calm, at(2, 1), at(2, 1), at(2, 1)),
		}},
	})
}

// ME1: changes of both sides that do not meet: at least one line stands between their places.
func TestChunksApart(t *testing.T) {
	cutAll(t, []cutting{
		{"mine first", of("12345", []put{{0, 1, "xx"}}, []put{{4, 1, "yyy"}}), []Chunk{
			chunk(Mine, at(0, 1), at(0, 2), at(0, 1)), chunk(Calm, at(1, 3), at(2, 3), at(1, 3)), chunk(Yours, at(4, 1), at(5, 1), at(4, 3)),
		}},
		{"one line between", of("123", []put{{0, 1, ""}}, []put{{2, 1, "y"}}), []Chunk{
			chunk(Mine, at(0, 1), at(0, 0), at(0, 1)), chunk(Calm, at(1, 1), at(0, 1), at(1, 1)), chunk(Yours, at(2, 1), at(1, 1), at(2, 1)),
		}},
		{"one line between lines that come", of("1", []put{{0, 0, "x"}}, []put{{1, 0, "y"}}), []Chunk{
			chunk(Mine, at(0, 0), at(0, 1), at(0, 0)), chunk(Calm, at(0, 1), at(1, 1), at(0, 1)), chunk(Yours, at(1, 0), at(2, 0), at(1, 1)),
		}},
		{"by turns", of("1234567", []put{{0, 1, "x"}, {4, 1, "zz"}}, []put{{2, 1, ""}, {6, 1, "y"}}), []Chunk{
			chunk(Mine, at(0, 1), at(0, 1), at(0, 1)), chunk(Calm, at(1, 1), at(1, 1), at(1, 1)),
			chunk(Yours, at(2, 1), at(2, 1), at(2, 0)), chunk(Calm, at(3, 1), at(3, 1), at(2, 1)),
			chunk(Mine, at(4, 1), at(4, 2), at(3, 1)), chunk(Calm, at(5, 1), at(6, 1), at(4, 1)),
			chunk(Yours, at(6, 1), at(7, 1), at(5, 1)),
		}},
	})
}

// ME1: changes of both sides that meet make one chunk: in lines, in a place, and in a row of several.
func TestChunksThatMeet(t *testing.T) {
	cutAll(t, []cutting{
		{"the same lines", of("123", []put{{1, 1, "x"}}, []put{{1, 1, "y"}}), []Chunk{
			chunk(Calm, at(0, 1), at(0, 1), at(0, 1)), chunk(Clash, at(1, 1), at(1, 1), at(1, 1)), chunk(Calm, at(2, 1), at(2, 1), at(2, 1)),
		}},
		{"lines that touch", of("12345", []put{{1, 1, "x"}}, []put{{2, 1, "w"}}), []Chunk{
			chunk(Calm, at(0, 1), at(0, 1), at(0, 1)), chunk(Clash, at(1, 2), at(1, 2), at(1, 2)), chunk(Calm, at(3, 2), at(3, 2), at(3, 2)),
		}},
		{"the same place", of("12", []put{{1, 0, "x"}}, []put{{1, 0, "yz"}}), []Chunk{
			chunk(Calm, at(0, 1), at(0, 1), at(0, 1)), chunk(Clash, at(1, 0), at(1, 1), at(1, 2)), chunk(Calm, at(1, 1), at(2, 1), at(3, 1)),
		}},
		{"the same place at the beginning", of("1", []put{{0, 0, "x"}}, []put{{0, 0, "y"}}), []Chunk{
			chunk(Clash, at(0, 0), at(0, 1), at(0, 1)), chunk(Calm, at(0, 1), at(1, 1), at(1, 1)),
		}},
		{"the same place at the end", of("1", []put{{1, 0, "x"}}, []put{{1, 0, "y"}}), []Chunk{
			chunk(Calm, at(0, 1), at(0, 1), at(0, 1)), chunk(Clash, at(1, 0), at(1, 1), at(1, 1)),
		}},
		{"a line that comes where lines begin", of("123", []put{{1, 0, "x"}}, []put{{1, 1, "y"}}), []Chunk{
			chunk(Calm, at(0, 1), at(0, 1), at(0, 1)), chunk(Clash, at(1, 1), at(1, 2), at(1, 1)), chunk(Calm, at(2, 1), at(3, 1), at(2, 1)),
		}},
		{"a line that comes where lines end", of("123", []put{{2, 0, "x"}}, []put{{1, 1, "y"}}), []Chunk{
			chunk(Calm, at(0, 1), at(0, 1), at(0, 1)), chunk(Clash, at(1, 1), at(1, 2), at(1, 1)), chunk(Calm, at(2, 1), at(3, 1), at(2, 1)),
		}},
		{"a line that comes among lines that go", of("12345", []put{{2, 0, "x"}}, []put{{1, 3, ""}}), []Chunk{
			chunk(Calm, at(0, 1), at(0, 1), at(0, 1)), chunk(Clash, at(1, 3), at(1, 4), at(1, 0)), chunk(Calm, at(4, 1), at(5, 1), at(1, 1)),
		}},
		{"one change within another one", of("12345", []put{{0, 5, "x"}}, []put{{2, 1, "yy"}}), []Chunk{
			chunk(Clash, at(0, 5), at(0, 1), at(0, 6)),
		}},
		{"several within one", of("123456", []put{{0, 6, "x"}}, []put{{0, 0, "y"}, {1, 1, ""}, {4, 1, "zz"}, {6, 0, "y"}}), []Chunk{
			chunk(Clash, at(0, 6), at(0, 1), at(0, 8)),
		}},
		{"a row of several", of("12345678", []put{{1, 2, "x"}, {4, 2, "xx"}}, []put{{2, 2, ""}, {6, 1, "y"}}), []Chunk{
			chunk(Calm, at(0, 1), at(0, 1), at(0, 1)), chunk(Clash, at(1, 6), at(1, 5), at(1, 4)), chunk(Calm, at(7, 1), at(6, 1), at(5, 1)),
		}},
		{"a row from the beginning to the end", of("1234", []put{{0, 1, "x"}, {2, 1, "x"}}, []put{{1, 1, "y"}, {3, 1, "y"}}), []Chunk{
			chunk(Clash, at(0, 4), at(0, 4), at(0, 4)),
		}},
		{"a row, and one apart behind it", of("12345", []put{{0, 1, "x"}, {4, 1, "x"}}, []put{{1, 1, "y"}}), []Chunk{
			chunk(Clash, at(0, 2), at(0, 2), at(0, 2)), chunk(Calm, at(2, 2), at(2, 2), at(2, 2)), chunk(Mine, at(4, 1), at(4, 1), at(4, 1)),
		}},
		{"no base", of("", []put{{0, 0, "x"}}, []put{{0, 0, "yy|"}}), []Chunk{chunk(Clash, at(0, 0), at(0, 1), at(0, 2))}},
		{"all lines go on one side, one comes on the other", of("12", []put{{0, 2, ""}}, []put{{2, 0, "y"}}), []Chunk{chunk(Clash, at(0, 2), at(0, 0), at(0, 3))}},
		{"ends alone unlike", of("12", []put{{1, 1, "x"}}, []put{{1, 1, "x|"}}), []Chunk{
			chunk(Calm, at(0, 1), at(0, 1), at(0, 1)), chunk(Clash, at(1, 1), at(1, 1), at(1, 1)),
		}},
	})
}

// ME1: Both is what both sides made alike, by whatever changes.
func TestChunksOfBoth(t *testing.T) {
	x := []put{{1, 1, "x"}}
	cutAll(t, []cutting{
		{"the same change", of("123", x, x), []Chunk{
			chunk(Calm, at(0, 1), at(0, 1), at(0, 1)), chunk(Both, at(1, 1), at(1, 1), at(1, 1)), chunk(Calm, at(2, 1), at(2, 1), at(2, 1)),
		}},
		{"the same lines go", of("123", []put{{0, 3, ""}}, []put{{0, 3, ""}}), []Chunk{chunk(Both, at(0, 3), at(0, 0), at(0, 0))}},
		{"the same lines come", of("", []put{{0, 0, "xy|"}}, []put{{0, 0, "xy|"}}), []Chunk{chunk(Both, at(0, 0), at(0, 2), at(0, 2))}},
		{"the same lines by other changes", of("1223", []put{{1, 1, ""}}, []put{{2, 1, ""}}), []Chunk{
			chunk(Calm, at(0, 1), at(0, 1), at(0, 1)), chunk(Both, at(1, 2), at(1, 1), at(1, 1)), chunk(Calm, at(3, 1), at(2, 1), at(2, 1)),
		}},
		{"the same lines, one of which stays on one side", of("123", []put{{1, 1, "2x"}}, []put{{2, 0, "x"}}), []Chunk{
			chunk(Calm, at(0, 1), at(0, 1), at(0, 1)), chunk(Both, at(1, 1), at(1, 2), at(1, 2)), chunk(Calm, at(2, 1), at(3, 1), at(3, 1)),
		}},
		{"the same change, then one more that meets it", of("1234", []put{{1, 1, "x"}}, []put{{1, 2, "x"}}), []Chunk{
			chunk(Calm, at(0, 1), at(0, 1), at(0, 1)), chunk(Clash, at(1, 2), at(1, 2), at(1, 1)), chunk(Calm, at(3, 1), at(3, 1), at(2, 1)),
		}},
		{"nothing changed in truth, by both", of("12", []put{{0, 1, "1"}}, []put{{1, 1, "2"}}), []Chunk{chunk(Both, at(0, 2), at(0, 2), at(0, 2))}},
	})
}

// handmade is what calls are given, by its parts.
func handmade(base, mine, yours string, s, t []api.Change) given {
	return given{textOf(base), side{s, textOf(mine)}, side{t, textOf(yours)}}
}

// ME1: scripts are taken normal: changes of one side that touch are one, though the other side meets only one of them.
func TestChunksOfScriptsThatTouch(t *testing.T) {
	cutAll(t, []cutting{
		{"one change in three", handmade("1234", "1xy4", "1234", script([4]int{1, 1, 1, 0}, [4]int{2, 0, 1, 2}, [4]int{2, 1, 3, 0}), nil), []Chunk{
			chunk(Calm, at(0, 1), at(0, 1), at(0, 1)), chunk(Mine, at(1, 2), at(1, 2), at(1, 2)), chunk(Calm, at(3, 1), at(3, 1), at(3, 1)),
		}},
		{"at the same place twice", handmade("12", "1xy2", "12", script([4]int{1, 0, 1, 1}, [4]int{1, 0, 2, 1}), nil), []Chunk{
			chunk(Calm, at(0, 1), at(0, 1), at(0, 1)), chunk(Mine, at(1, 0), at(1, 2), at(1, 0)), chunk(Calm, at(1, 1), at(3, 1), at(1, 1)),
		}},
		{"the first of two is met", handmade("12345", "1xy45", "y2345", script([4]int{1, 1, 1, 1}, [4]int{2, 1, 2, 1}), script([4]int{0, 1, 0, 1})), []Chunk{
			chunk(Clash, at(0, 3), at(0, 3), at(0, 3)), chunk(Calm, at(3, 2), at(3, 2), at(3, 2)),
		}},
		{"the last of two is met", handmade("12345", "1xy45", "123y5", script([4]int{1, 1, 1, 1}, [4]int{2, 1, 2, 1}), script([4]int{3, 1, 3, 1})), []Chunk{
			chunk(Calm, at(0, 1), at(0, 1), at(0, 1)), chunk(Clash, at(1, 3), at(1, 3), at(1, 3)), chunk(Calm, at(4, 1), at(4, 1), at(4, 1)),
		}},
		{"the same change, cut otherwise", handmade("123", "x3", "x3", script([4]int{0, 1, 0, 0}, [4]int{1, 1, 0, 1}), script([4]int{0, 1, 0, 1}, [4]int{1, 1, 1, 0})), []Chunk{
			chunk(Both, at(0, 2), at(0, 1), at(0, 1)), chunk(Calm, at(2, 1), at(1, 1), at(1, 1)),
		}},
	})
}

// noTexts are lists that are no text's lines.
func noTexts() [][]string {
	return [][]string{{""}, {"a", "b"}, {"a", "b\n"}, {"a\n", ""}, {"a\nb"}, {"a\nb\n"}, {"\n\n"}, {"a\n", "", "b\n"}}
}

// ME1: texts that are none.
func TestNoTexts(t *testing.T) {
	l := textOf("12")
	for _, bad := range noTexts() {
		failsAll(t, "base", given{bad, side{nil, l}, side{nil, l}}, api.ErrForm)
		failsAll(t, "mine", given{l, side{nil, bad}, side{nil, l}}, api.ErrForm)
		failsAll(t, "yours", given{l, side{nil, l}, side{nil, bad}}, api.ErrForm)
	}
}

// failsAll fails where a call does not answer the error that is wanted, with any format.
func failsAll(t *testing.T, what string, g given, want error) {
	t.Helper()
	for format := formatTwo; format <= formatYours; format++ {
		fails(t, what, g, myLabels(), format, want, false)
	}
}

// badScripts are scripts that do not lead from three lines to three.
func badScripts() map[string][]api.Change {
	return map[string][]api.Change{
		"nothing changed":         script([4]int{1, 0, 1, 0}),
		"below 0":                 script([4]int{-1, 1, -1, 1}),
		"fewer than 0 lines go":   script([4]int{1, -1, 1, 1}),
		"fewer than 0 lines come": script([4]int{1, 1, 1, -1}),
		"behind the end":          script([4]int{3, 1, 3, 1}),
		"too many go":             script([4]int{1, 3, 1, 3}),
		"too many come":           script([4]int{1, 1, 1, 2}),
		"other lines ahead":       script([4]int{0, 1, 1, 1}),
		"not in order":            script([4]int{2, 1, 2, 1}, [4]int{0, 1, 0, 1}),
		"one over another":        script([4]int{0, 2, 0, 2}, [4]int{1, 1, 1, 1}),
		"unlike between":          script([4]int{0, 1, 0, 0}, [4]int{2, 0, 2, 1}),
	}
}

// ME1: scripts that may not be, of either side.
func TestNoScripts(t *testing.T) {
	l := textOf("123")
	for what, s := range badScripts() {
		failsAll(t, what+", of mine", given{l, side{s, l}, side{nil, l}}, api.ErrEdit)
		failsAll(t, what+", of yours", given{l, side{nil, l}, side{s, l}}, api.ErrEdit)
	}
	failsAll(t, "no script to more lines", given{l, side{nil, textOf("1234")}, side{nil, l}}, api.ErrEdit)
	failsAll(t, "no script to fewer lines", given{l, side{nil, l}, side{nil, textOf("12")}}, api.ErrEdit)
	failsAll(t, "no script from no lines", given{nil, side{nil, l}, side{nil, l}}, api.ErrEdit)
}

// ME1: lines that stay by a script but are not the same text.
func TestLinesThatDoNotStay(t *testing.T) {
	one := script([4]int{1, 1, 1, 1})
	l := textOf("123")
	for _, other := range []string{"xx3", "1xx", "1x3|", "2x3", "1x1", "xxx"} {
		failsAll(t, other+", of mine", given{l, side{one, textOf(other)}, side{nil, l}}, api.ErrApply)
		failsAll(t, other+", of yours", given{l, side{nil, l}, side{one, textOf(other)}}, api.ErrApply)
	}
	come, go1 := script([4]int{1, 0, 1, 1}), script([4]int{1, 1, 1, 0})
	failsAll(t, "a line behind one that comes", given{l, side{come, textOf("1x33")}, side{nil, l}}, api.ErrApply)
	failsAll(t, "a line behind one that goes", given{l, side{nil, l}, side{go1, textOf("12")}}, api.ErrApply)
	failsAll(t, "without a change", given{l, side{nil, textOf("12x")}, side{nil, l}}, api.ErrApply)
	failsAll(t, "an end alone", given{l, side{nil, l}, side{nil, textOf("123|")}}, api.ErrApply)
	failsAll(t, "between two changes", given{textOf("12345"), side{script([4]int{0, 1, 0, 1}, [4]int{4, 1, 4, 1}), textOf("x2y4x")}, side{nil, textOf("12345")}}, api.ErrApply)
}

// ME1: which of two errors comes first.
func TestWhichErrorOfChunks(t *testing.T) {
	l, bad := textOf("123"), []string{"1", "2"}
	noScript, other := side{script([4]int{0, 0, 0, 0}), l}, side{nil, textOf("12x")}
	failsAll(t, "base's form ahead of mine's script", given{bad, noScript, side{nil, l}}, api.ErrForm)
	failsAll(t, "yours' form ahead of mine's script", given{l, noScript, side{nil, bad}}, api.ErrForm)
	failsAll(t, "yours' form ahead of mine's lines", given{l, other, side{nil, bad}}, api.ErrForm)
	failsAll(t, "mine's form ahead of its script", given{l, side{noScript.s, bad}, noScript}, api.ErrForm)
	failsAll(t, "yours' script ahead of mine's lines", given{l, other, noScript}, api.ErrEdit)
	failsAll(t, "mine's script ahead of yours' lines", given{l, noScript, other}, api.ErrEdit)
	failsAll(t, "both scripts", given{l, noScript, noScript}, api.ErrEdit)
	failsAll(t, "both sides' lines", given{l, other, other}, api.ErrApply)
}

// ME1: more lines than a script may be of: mine's script ahead of yours', each ahead of what its changes say.
func TestChunksOfTooManyLines(t *testing.T) {
	just := strings.SplitAfter(strings.Repeat("\n", api.MaxBytes), "\n")[:api.MaxBytes]
	over := append(slices.Clone(just), "\n")
	come := script([4]int{0, 0, 0, 1})
	for _, c := range []struct {
		what string
		g    given
		want error
	}{
		{"just as many", given{just, side{nil, just}, side{nil, just}}, nil},
		{"the base one more", given{over, side{nil, just}, side{nil, just}}, api.ErrArg},
		{"mine one more", given{just, side{come, over}, side{nil, just}}, api.ErrArg},
		{"yours one more", given{just, side{nil, just}, side{come, over}}, api.ErrArg},
		{"mine's script, yours one more", given{just, side{come, just}, side{come, over}}, api.ErrEdit},
		{"mine one more, yours' script", given{just, side{come, over}, side{come, just}}, api.ErrArg},
		{"mine's lines, yours one more", given{just, side{script([4]int{0, 1, 0, 1}), append([]string{"x\n", "y\n"}, just[2:]...)}, side{come, over}}, api.ErrArg},
	} {
		got, err := c.g.chunks()
		isErr(t, c.what, err, c.want)
		if (err == nil) != (len(got) == 1) {
			t.Errorf("%s: %v", c.what, got)
		}
	}
}
