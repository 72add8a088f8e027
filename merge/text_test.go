package merge

import (
	"math"
	"selvage/api"
	"strings"
	"testing"
)

// rows are lines of a text, one behind the other, each with its end.
func rows(l ...string) string {
	text := ""
	for _, line := range l {
		text += line + "\n"
	}
	return text
}

// spaced are lines of a text that are told with blanks between them.
func spaced(words string) string {
	return rows(strings.Fields(words)...)
}

// ME2: without a clash all formats tell one text: of Calm, Mine and Both the lines of mine, of Yours those of yours.
func TestTextWithoutClash(t *testing.T) {
	x := []put{{1, 1, "x"}}
	for _, c := range []struct {
		what string
		g    given
		want string
	}{
		{"no texts", of("", nil, nil), ""},
		{"nothing changed", of("123", nil, nil), "1\n2\n3\n"},
		{"nothing changed, without an end", of("123|", nil, nil), "1\n2\n3"},
		{"one side", of("123", x, nil), "1\nx\n3\n"},
		{"lines of one side go", of("123", []put{{0, 3, ""}}, nil), ""},
		{"lines of one side come", of("", []put{{0, 0, "xy|"}}, nil), "x\ny"},
		{"both sides, apart", of("12345", []put{{0, 1, "xx"}, {4, 1, ""}}, []put{{2, 1, "yyy"}}), "x\nx\n2\ny\ny\ny\n4\n"},
		{"both sides, one line between", of("123", []put{{0, 1, ""}}, []put{{2, 1, "y|"}}), "2\ny"},
		{"both sides alike", of("123", x, x), "1\nx\n3\n"},
		{"both sides alike, by other changes", of("1223", []put{{1, 1, ""}}, []put{{2, 1, ""}}), "1\n2\n3\n"},
		{"both sides alike at the end, without it", of("12", []put{{1, 1, "x|"}}, []put{{1, 1, "x|"}}), "1\nx"},
		{"an end goes here, a line there", of("123", []put{{2, 1, "3|"}}, []put{{0, 1, ""}}), "2\n3"},
		{"an end comes here, a line there", of("123|", []put{{2, 1, "3"}}, []put{{0, 0, "y"}}), "y\n1\n2\n3\n"},
		{"a line goes behind which the text has no end", of("12|", nil, []put{{0, 1, ""}}), "2"},
	} {
		for format := formatTwo; format <= formatYours; format++ {
			merges(t, c.what, c.g, format, c.want, 0)
			merges(t, c.what+", exchanged", c.g.exchanged(), format, c.want, 0)
		}
	}
}

// clashes is a text with clashes, and what each format tells of it.
type clashes struct {
	what string
	g    given
	n    int                     // how many clashes
	want [formatYours + 1]string // by format
}

// told fails where a format does not tell what is wanted.
func (c clashes) told(t *testing.T) {
	t.Helper()
	for format := formatTwo; format <= formatYours; format++ {
		n := c.n
		if format > formatThree {
			n = 0
		}
		merges(t, c.what, c.g, format, c.want[format], n)
	}
}

// ME2: clashes that are first, last, alone and with one line between, in each format.
func TestTextOfClashes(t *testing.T) {
	for _, c := range []clashes{
		{"in the middle", of("123", []put{{1, 1, "x"}}, []put{{1, 1, "yz"}}), 1, [6]string{"",
			rows("1", "<<<<<<< m", "x", "=======", "y", "z", ">>>>>>> y", "3"),
			rows("1", "<<<<<<< m", "x", "||||||| b", "2", "=======", "y", "z", ">>>>>>> y", "3"),
			spaced("1 x y z 3"), spaced("1 x 3"), spaced("1 y z 3"),
		}},
		{"first", of("12", []put{{0, 1, "x"}}, []put{{0, 1, "y"}}), 1, [6]string{"",
			rows("<<<<<<< m", "x", "=======", "y", ">>>>>>> y", "2"),
			rows("<<<<<<< m", "x", "||||||| b", "1", "=======", "y", ">>>>>>> y", "2"),
			spaced("x y 2"), spaced("x 2"), spaced("y 2"),
		}},
		{"last", of("12", []put{{1, 1, "x"}}, []put{{1, 1, "y"}}), 1, [6]string{"",
			rows("1", "<<<<<<< m", "x", "=======", "y", ">>>>>>> y"),
			rows("1", "<<<<<<< m", "x", "||||||| b", "2", "=======", "y", ">>>>>>> y"),
			spaced("1 x y"), spaced("1 x"), spaced("1 y"),
		}},
		{"alone", of("12", []put{{0, 2, "x"}}, []put{{0, 2, "y"}}), 1, [6]string{"",
			rows("<<<<<<< m", "x", "=======", "y", ">>>>>>> y"),
			rows("<<<<<<< m", "x", "||||||| b", "1", "2", "=======", "y", ">>>>>>> y"),
			spaced("x y"), spaced("x"), spaced("y"),
		}},
		{"without a base", of("", []put{{0, 0, "x"}}, []put{{0, 0, "y"}}), 1, [6]string{"",
			rows("<<<<<<< m", "x", "=======", "y", ">>>>>>> y"),
			rows("<<<<<<< m", "x", "||||||| b", "=======", "y", ">>>>>>> y"),
			spaced("x y"), spaced("x"), spaced("y"),
		}},
		{"without mine", of("1", []put{{0, 1, ""}}, []put{{0, 1, "y"}}), 1, [6]string{"",
			rows("<<<<<<< m", "=======", "y", ">>>>>>> y"),
			rows("<<<<<<< m", "||||||| b", "1", "=======", "y", ">>>>>>> y"),
			spaced("y"), "", spaced("y"),
		}},
		{"without yours", of("1", []put{{0, 1, "x"}}, []put{{0, 1, ""}}), 1, [6]string{"",
			rows("<<<<<<< m", "x", "=======", ">>>>>>> y"),
			rows("<<<<<<< m", "x", "||||||| b", "1", "=======", ">>>>>>> y"),
			spaced("x"), spaced("x"), "",
		}},
		{"with lines that stay", of("12345", []put{{1, 1, "x"}, {3, 1, ""}}, []put{{2, 1, "y"}}), 1, [6]string{"",
			rows("1", "<<<<<<< m", "x", "3", "=======", "2", "y", "4", ">>>>>>> y", "5"),
			rows("1", "<<<<<<< m", "x", "3", "||||||| b", "2", "3", "4", "=======", "2", "y", "4", ">>>>>>> y", "5"),
			spaced("1 x 3 2 y 4 5"), spaced("1 x 3 5"), spaced("1 2 y 4 5"),
		}},
		{"side by side", of("123", []put{{0, 1, "x"}, {2, 1, "x"}}, []put{{0, 1, "y"}, {2, 1, "z"}}), 2, [6]string{"",
			rows("<<<<<<< m", "x", "=======", "y", ">>>>>>> y", "2", "<<<<<<< m", "x", "=======", "z", ">>>>>>> y"),
			rows("<<<<<<< m", "x", "||||||| b", "1", "=======", "y", ">>>>>>> y", "2", "<<<<<<< m", "x", "||||||| b", "3", "=======", "z", ">>>>>>> y"),
			spaced("x y 2 x z"), spaced("x 2 x"), spaced("y 2 z"),
		}},
		{"beside changes of each kind", of("123456789", []put{{0, 1, "x"}, {4, 1, "x"}, {8, 1, "x"}}, []put{{2, 1, "y"}, {4, 1, "y"}, {8, 1, "x"}}), 1, [6]string{"",
			rows("x", "2", "y", "4", "<<<<<<< m", "x", "=======", "y", ">>>>>>> y", "6", "7", "8", "x"),
			rows("x", "2", "y", "4", "<<<<<<< m", "x", "||||||| b", "5", "=======", "y", ">>>>>>> y", "6", "7", "8", "x"),
			spaced("x 2 y 4 x y 6 7 8 x"), spaced("x 2 y 4 x 6 7 8 x"), spaced("x 2 y 4 y 6 7 8 x"),
		}},
	} {
		c.told(t)
	}
}

// ME2: a byte 10 comes behind each part of a clash that has none at its end, but in the formats 4 and 5, and behind yours' in the format 3.
func TestTextOfClashesWithoutAnEnd(t *testing.T) {
	two := func(mine, yours string) string {
		return "1\n<<<<<<< m\n" + mine + "=======\n" + yours + ">>>>>>> y\n"
	}
	three := func(mine, base, yours string) string {
		return "1\n<<<<<<< m\n" + mine + "||||||| b\n" + base + "=======\n" + yours + ">>>>>>> y\n"
	}
	for _, c := range []clashes{
		{"mine", of("12", []put{{1, 1, "x|"}}, []put{{1, 1, "y"}}), 1, [6]string{"",
			two("x\n", "y\n"), three("x\n", "2\n", "y\n"), "1\nx\ny\n", "1\nx", "1\ny\n",
		}},
		{"the base", of("12|", []put{{1, 1, "x"}}, []put{{1, 1, "y"}}), 1, [6]string{"",
			two("x\n", "y\n"), three("x\n", "2\n", "y\n"), "1\nx\ny\n", "1\nx\n", "1\ny\n",
		}},
		{"yours", of("12", []put{{1, 1, "x"}}, []put{{1, 1, "y|"}}), 1, [6]string{"",
			two("x\n", "y\n"), three("x\n", "2\n", "y\n"), "1\nx\ny", "1\nx\n", "1\ny",
		}},
		{"all three", of("12|", []put{{1, 1, "wx|"}}, []put{{1, 1, "yz|"}}), 1, [6]string{"",
			two("w\nx\n", "y\nz\n"), three("w\nx\n", "2\n", "y\nz\n"), "1\nw\nx\ny\nz", "1\nw\nx", "1\ny\nz",
		}},
		{"ends alone", of("12", []put{{1, 1, "x|"}}, []put{{1, 1, "x"}}), 1, [6]string{"",
			two("x\n", "x\n"), three("x\n", "2\n", "x\n"), "1\nx\nx\n", "1\nx", "1\nx\n",
		}},
		{"mine, where yours has no lines", of("12|", []put{{1, 1, "x|"}}, []put{{1, 1, ""}}), 1, [6]string{"",
			two("x\n", ""), three("x\n", "2\n", ""), "1\nx\n", "1\nx", "1\n",
		}},
		{"yours, where mine has no lines", of("12|", []put{{1, 1, ""}}, []put{{1, 1, "y|"}}), 1, [6]string{"",
			two("", "y\n"), three("", "2\n", "y\n"), "1\ny", "1\n", "1\ny",
		}},
		{"both, where the base has no lines", of("1", []put{{1, 0, "x|"}}, []put{{1, 0, "y|"}}), 1, [6]string{"",
			two("x\n", "y\n"), three("x\n", "", "y\n"), "1\nx\ny", "1\nx", "1\ny",
		}},
	} {
		c.told(t)
	}
}

// ME2: a line that is not whole gets a byte 10, if it is the last one of a chunk that is not the last one: of texts that the calls take no chunk is so, since calm lines are behind it.
func TestEndsOfChunksByHand(t *testing.T) {
	cut := textOf("12|")
	long := []string{"x\n", "y"}
	for _, c := range []struct {
		kind   int
		isLast bool
		want   string
	}{
		{Calm, false, "1\n2\n"}, {Calm, true, "1\n2"},
		{Mine, false, "1\n2\n"}, {Mine, true, "1\n2"},
		{Yours, false, "x\ny\n"}, {Yours, true, "x\ny"},
		{Both, false, "1\n2\n"}, {Both, true, "1\n2"},
		{Clash, false, "1\n2\nx\ny"}, {Clash, true, "1\n2\nx\ny"},
	} {
		m := merger{texts: texts{cut, cut, long}, labels: myLabels(), format: formatUnion}
		m.chunk(chunk(c.kind, at(0, 2), at(0, 2), at(0, 2)), c.isLast)
		if got := m.String(); got != c.want || m.isOver {
			t.Errorf("kind %d, last %t: %q, not %q", c.kind, c.isLast, got, c.want)
		}
	}
	for format, want := range map[int]string{formatMine: "1\n2", formatYours: "x\ny"} {
		m := merger{texts: texts{cut, cut, long}, labels: myLabels(), format: format}
		m.chunk(chunk(Clash, at(0, 2), at(0, 2), at(0, 2)), false)
		if got := m.String(); got != want {
			t.Errorf("format %d: %q, not %q", format, got, want)
		}
	}
}

// ME2: formats that are none.
func TestNoFormat(t *testing.T) {
	g := of("123", []put{{1, 1, "x"}}, nil)
	for _, format := range []int{math.MinInt, -1, 0, 6, 7, math.MaxInt} {
		fails(t, "a format", g, myLabels(), format, api.ErrArg, true)
		fails(t, "a format ahead of labels", g, nil, format, api.ErrArg, true)
		fails(t, "a format ahead of a label", g, []string{"\n", "", ""}, format, api.ErrArg, true)
		fails(t, "a format ahead of texts", given{base: []string{""}}, myLabels(), format, api.ErrArg, true)
	}
}

// ME2: fewer and more than three labels.
func TestNotThreeLabels(t *testing.T) {
	g := of("123", []put{{1, 1, "x"}}, nil)
	for _, labels := range [][]string{nil, {}, {"a"}, {"a", "b"}, {"a", "b", "c", "d"}, {"", "", "", ""}, {"\n"}, {"a", "b", "c", "\n"}} {
		for format := formatTwo; format <= formatYours; format++ {
			fails(t, "labels", g, labels, format, api.ErrWords, true)
			fails(t, "labels ahead of texts", given{base: []string{""}}, labels, format, api.ErrWords, true)
		}
	}
}

// ME2: labels that may not be, in each place and with each format, and those that just may.
func TestLabels(t *testing.T) {
	g := of("123", []put{{1, 1, "x"}}, []put{{1, 1, "y"}})
	for place := range labelCount {
		for _, bad := range []string{"\n", "a\n", "\na", "a\nb", strings.Repeat("a", api.MaxPath+1), strings.Repeat("\n", api.MaxPath+1)} {
			labels := myLabels()
			labels[place] = bad
			for format := formatTwo; format <= formatYours; format++ {
				fails(t, "a label", g, labels, format, api.ErrName, true)
				fails(t, "a label ahead of texts", given{base: []string{""}}, labels, format, api.ErrName, true)
				fails(t, "a label ahead of scripts", given{base: []string{"a"}}, labels, format, api.ErrName, true)
			}
		}
		for _, good := range []string{"", " ", "\r", "a b\t", "\x00\xff", "=======", strings.Repeat("a", api.MaxPath), strings.Repeat("é", api.MaxPath/2)} {
			labels := myLabels()
			labels[place] = good
			want := rows("1", "<<<<<<< "+labels[0], "x", "||||||| "+labels[1], "2", "=======", "y", ">>>>>>> "+labels[2], "3")
			if got, n, err := g.merge(labels, formatThree); got != want || n != 1 || err != nil {
				t.Errorf("%.100q: %.200q, %d, %v", labels, got, n, err)
			}
		}
	}
}

// ME2: an error of Chunks comes behind those of formats and labels, and ahead of a text that is too long.
func TestWhichErrorOfMerge(t *testing.T) {
	long := []string{strings.Repeat("a", api.MaxBytes) + "\n"}
	same := side{nil, long}
	for format := formatTwo; format <= formatYours; format++ {
		fails(t, "too long", given{long, same, same}, myLabels(), format, api.ErrLong, true)
		fails(t, "no text, too long", given{append(long, ""), same, same}, myLabels(), format, api.ErrForm, false)
		fails(t, "no script, too long", given{long, side{script([4]int{0, 0, 0, 0}), long}, same}, myLabels(), format, api.ErrEdit, false)
		fails(t, "not the same lines, too long", given{long, same, side{nil, textOf("x")}}, myLabels(), format, api.ErrApply, false)
		fails(t, "a label, too long", given{long, same, same}, []string{"", "", "\n"}, format, api.ErrName, true)
	}
}
