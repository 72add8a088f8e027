package merge

import (
	"selvage/api"
	"strings"
	"testing"
)

// padded is what Merge is given, with bytes of a test's choice somewhere.
type padded struct {
	what    string
	formats []int
	of      func(pad string) given
}

// change1 is the script that changes the one line there is.
func change1() []api.Change {
	return script([4]int{0, 1, 0, 1})
}

// line1 is a text of one line, and the script that changes the one of the base to it.
func line1(text string) side {
	return side{change1(), []string{text}}
}

// told are texts in which bytes can stand in a line that is told with some formats.
func told() []padded {
	all := []int{1, 2, 3, 4, 5}
	x, y := line1("x\n"), line1("y\n")
	base := []string{"1\n"}
	stays := side{nil, base}
	return []padded{
		{"a line that nobody changed", all, func(pad string) given {
			l := []string{pad + "\n"}
			return given{l, side{nil, l}, side{nil, l}}
		}},
		{"without an end", all, func(pad string) given {
			l := []string{"a\n", "z" + pad}
			return given{l, side{nil, l}, side{nil, l}}
		}},
		{"mine's line", all, func(pad string) given { return given{base, line1(pad + "\n"), stays} }},
		{"yours' line", all, func(pad string) given { return given{base, stays, line1(pad + "\n")} }},
		{"yours' line without an end", all, func(pad string) given { return given{base, stays, line1("z" + pad)} }},
		{"both sides' line", all, func(pad string) given { return given{base, line1(pad + "\n"), line1(pad + "\n")} }},
		{"mine's line of a clash", []int{1, 2, 3, 4}, func(pad string) given { return given{base, line1(pad + "\n"), y} }},
		{"mine's line of a clash, without an end", []int{1, 2, 3, 4}, func(pad string) given { return given{base, line1("z" + pad), y} }},
		{"yours' line of a clash", []int{1, 2, 3, 5}, func(pad string) given { return given{base, x, line1("z" + pad + "\n")} }},
		{"yours' line of a clash, without an end", []int{1, 2, 3, 5}, func(pad string) given { return given{base, x, line1("z" + pad)} }},
		{"the base's line of a clash", []int{2}, func(pad string) given { return given{[]string{pad + "\n"}, x, y} }},
		{"the base's line of a clash, without an end", []int{2}, func(pad string) given { return given{[]string{"z" + pad}, x, y} }},
	}
}

// ME2: a text of just MaxBytes bytes may be, one of one more may not, whatever part the bytes are in.
func TestRoom(t *testing.T) {
	for _, c := range told() {
		for _, format := range c.formats {
			small, _, err := c.of("").merge(myLabels(), format)
			isErr(t, c.what, err, nil)
			room := api.MaxBytes - len(small)
			for _, less := range []int{1, 0} {
				fitsInto(t, c.what, c.of(strings.Repeat("p", room-less)), myLabels(), format, api.MaxBytes-less)
			}
			fails(t, c.what, c.of(strings.Repeat("p", room+1)), myLabels(), format, api.ErrLong, true)
			fails(t, c.what, c.of(strings.Repeat("p", 2*api.MaxBytes)), myLabels(), format, api.ErrLong, true)
		}
	}
}

// fitsInto fails where Merge and Onto do not answer a text of so many bytes.
func fitsInto(t *testing.T, what string, g given, labels []string, format, length int) {
	t.Helper()
	text, _, err := g.merge(labels, format)
	if err != nil || len(text) != length {
		t.Errorf("%s: format %d: %d bytes, %v, not %d", what, format, len(text), err, length)
	}
	_, l, err := g.onto(labels, format)
	if err != nil || strings.Join(l, "") != text {
		t.Errorf("%s: format %d: Onto: %v", what, format, err)
	}
}

// ME2: bytes of parts that a format does not tell need no room.
func TestRoomOfWhatIsNotTold(t *testing.T) {
	x, y := line1("x\n"), line1("y\n")
	pad := strings.Repeat("p", api.MaxBytes+1)
	for _, c := range []struct {
		what   string
		g      given
		format int
		want   string
	}{
		{"the base, format 1", given{[]string{pad}, x, y}, 1, rows("<<<<<<< m", "x", "=======", "y", ">>>>>>> y")},
		{"the base, format 3", given{[]string{pad}, x, y}, 3, "x\ny\n"},
		{"the base, format 4", given{[]string{pad}, x, y}, 4, "x\n"},
		{"the base, format 5", given{[]string{pad}, x, y}, 5, "y\n"},
		{"yours, format 4", given{textOf("1"), x, line1(pad)}, 4, "x\n"},
		{"mine, format 5", given{textOf("1"), line1(pad), y}, 5, "y\n"},
		{"the base and yours, a change of mine", given{[]string{pad}, x, side{nil, []string{pad}}}, 1, "x\n"},
		{"the base and mine, a change of yours", given{[]string{pad}, side{nil, []string{pad}}, y}, 1, "y\n"},
		{"the base, a change of both", given{[]string{pad}, x, x}, 1, "x\n"},
	} {
		text, _, err := c.g.merge(myLabels(), c.format)
		if err != nil || text != c.want {
			t.Errorf("%s: %.200q, %v", c.what, text, err)
		}
	}
}

// ME2: whatever is written last of what has no room, the text is too long: each mark, each byte of a part.
func TestRoomEndsAnywhere(t *testing.T) {
	s := script([4]int{1, 1, 1, 1})
	of := func(pad int) given {
		line := strings.Repeat("p", pad) + "\n"
		return given{[]string{line, "2"}, side{s, []string{line, "xx"}}, side{s, []string{line, "yyy"}}}
	}
	for format := formatTwo; format <= formatYours; format++ {
		text, _, err := of(0).merge(myLabels(), format)
		isErr(t, "small", err, nil)
		for over := 1 - len(text); over < len(text)+2; over++ {
			g := of(api.MaxBytes - len(text) + over)
			got, _, err := g.merge(myLabels(), format)
			if over > 0 && (got != "" || err != api.ErrLong) || over <= 0 && (err != nil || len(got) != api.MaxBytes+over) {
				t.Fatalf("format %d, %d over: %d bytes, %v", format, over, len(got), err)
			}
		}
	}
}

// ME2: a byte 10 behind a part, and a byte of a label, need room as all others do.
func TestRoomOfEndsAndLabels(t *testing.T) {
	come := script([4]int{0, 1, 0, 1})
	gone := side{script([4]int{0, 1, 0, 0}), nil}
	of := func(n int) given {
		return given{[]string{"1\n"}, side{come, []string{strings.Repeat("p", n)}}, gone}
	}
	fitsInto(t, "mine and its end", of(api.MaxBytes-1), myLabels(), formatUnion, api.MaxBytes)
	fails(t, "no room for mine's end", of(api.MaxBytes), myLabels(), formatUnion, api.ErrLong, true)
	fitsInto(t, "mine without its end", of(api.MaxBytes), myLabels(), formatMine, api.MaxBytes)
	fitsInto(t, "yours without its end", of(api.MaxBytes).exchanged(), myLabels(), formatUnion, api.MaxBytes)
	none := len("<<<<<<< \n||||||| \n1\n=======\n>>>>>>> \n") + 1
	for place := range labelCount {
		for _, n := range []int{1, 100, api.MaxPath} {
			labels := make([]string, labelCount)
			labels[place] = strings.Repeat("l", n)
			fitsInto(t, "a label", of(api.MaxBytes-none-n), labels, formatThree, api.MaxBytes)
			fails(t, "no room for a label", of(api.MaxBytes-none-n+1), labels, formatThree, api.ErrLong, true)
		}
	}
}

// ME2: what has no room makes the text too long, though all behind it has: one long line ahead of short ones.
func TestRoomOfShortLinesBehind(t *testing.T) {
	long := strings.Repeat("p", api.MaxBytes) + "\n"
	l := []string{"a\n", long, "b\n", "c\n"}
	s := script([4]int{3, 1, 3, 1})
	y := []string{"a\n", long, "b\n", "y\n"}
	for format := formatTwo; format <= formatYours; format++ {
		fails(t, "nothing changed", given{l, side{nil, l}, side{nil, l}}, myLabels(), format, api.ErrLong, true)
		fails(t, "something changed", given{l, side{nil, l}, side{s, y}}, myLabels(), format, api.ErrLong, true)
	}
	if told, err := (given{l, side{nil, l}, side{s, y}}).diff3(); err != nil || told != "====3\n1:4c\n2:4c\n  c\n3:4c\n  y\n" {
		t.Errorf("Diff3: %.100q, %v", told, err)
	}
	if c, err := (given{l, side{nil, l}, side{s, y}}).chunks(); err != nil || len(c) != 2 {
		t.Errorf("Chunks: %v, %v", c, err)
	}
}

// ME2: two sides that may be, but are too long together.
func TestRoomOfBothSides(t *testing.T) {
	half := api.MaxBytes / 2
	g := given{[]string{"1\n"}, line1(strings.Repeat("x", half-1) + "\n"), line1(strings.Repeat("y", half-1) + "\n")}
	fitsInto(t, "union", g, myLabels(), formatUnion, api.MaxBytes)
	fails(t, "marks", g, myLabels(), formatTwo, api.ErrLong, true)
	fails(t, "marks", g, myLabels(), formatThree, api.ErrLong, true)
	g = given{[]string{"1\n"}, line1(strings.Repeat("x", half-1) + "\n"), line1(strings.Repeat("y", half) + "\n")}
	fails(t, "union", g, myLabels(), formatUnion, api.ErrLong, true)
	fitsInto(t, "mine", g, myLabels(), formatMine, half)
	fitsInto(t, "yours", g, myLabels(), formatYours, half+1)
}

// ME2: a text of as many lines as there may be bytes.
func TestRoomOfManyLines(t *testing.T) {
	l := strings.SplitAfter(strings.Repeat("\n", api.MaxBytes), "\n")[:api.MaxBytes]
	fitsInto(t, "empty lines", given{l, side{nil, l}, side{nil, l}}, myLabels(), formatTwo, api.MaxBytes)
	come := side{script([4]int{0, 0, 0, api.MaxBytes}), l}
	fitsInto(t, "empty lines of mine", given{nil, come, side{}}, myLabels(), formatTwo, api.MaxBytes)
	fitsInto(t, "empty lines of yours", given{nil, side{}, come}, myLabels(), formatTwo, api.MaxBytes)
	fitsInto(t, "empty lines of both", given{nil, come, come}, myLabels(), formatTwo, api.MaxBytes)
	fails(t, "one more", given{nil, come, side{script([4]int{0, 0, 0, 1}), []string{"x"}}}, myLabels(), formatUnion, api.ErrLong, true)
}
