package merge

import (
	"selvage/api"
	"slices"
	"testing"
)

// leading is what Onto is given, and the script and the text it answers, by format.
type leading struct {
	what string
	g    given
	want [formatYours + 1][]api.Change
	text [formatYours + 1]string
}

// sameByFormat is one thing for all formats.
func sameByFormat[T any](one T) [formatYours + 1]T {
	return [formatYours + 1]T{one, one, one, one, one, one}
}

// leadAll asks Onto for all of these, with each format.
func leadAll(t *testing.T, all []leading) {
	t.Helper()
	for _, c := range all {
		for format := formatTwo; format <= formatYours; format++ {
			leads(t, c.what, c.g, format, c.want[format], c.text[format])
		}
	}
}

// ME7: without a clash: what yours alone changed is changed in mine, with each format.
func TestOntoWithoutClash(t *testing.T) {
	x := []put{{1, 1, "x"}}
	same := func(what string, g given, want []api.Change, text string) leading {
		return leading{what, g, sameByFormat(want), sameByFormat(text)}
	}
	leadAll(t, []leading{
		same("no texts", of("", nil, nil), nil, ""),
		same("nothing changed", of("123|", nil, nil), nil, "1\n2\n3"),
		same("a change of mine", of("123", x, nil), nil, "1\nx\n3\n"),
		same("all lines of mine go", of("123", []put{{0, 3, ""}}, nil), nil, ""),
		same("a change of yours", of("123", nil, []put{{1, 1, "yz"}}), script([4]int{1, 1, 1, 2}), "1\ny\nz\n3\n"),
		same("lines of yours come at the beginning", of("12", nil, []put{{0, 0, "yz"}}), script([4]int{0, 0, 0, 2}), "y\nz\n1\n2\n"),
		same("lines of yours come at the end", of("12", nil, []put{{2, 0, "yz|"}}), script([4]int{2, 0, 2, 2}), "1\n2\ny\nz"),
		same("all lines of yours go", of("123", nil, []put{{0, 3, ""}}), script([4]int{0, 3, 0, 0}), ""),
		same("lines of yours come to no text", of("", nil, []put{{0, 0, "y"}}), script([4]int{0, 0, 0, 1}), "y\n"),
		same("the same change", of("123", x, x), nil, "1\nx\n3\n"),
		same("the same lines by other changes", of("1223", []put{{1, 1, ""}}, []put{{2, 1, ""}}), nil, "1\n2\n3\n"),
		same("changes behind some of mine", of("1234567", []put{{0, 1, "xxx"}, {4, 1, ""}}, []put{{2, 1, "yy"}, {6, 1, ""}}),
			script([4]int{4, 1, 4, 2}, [4]int{7, 1, 8, 0}), "x\nx\nx\n2\ny\ny\n4\n6\n"),
		same("yours brings what it takes", of("123", nil, []put{{1, 1, "2"}}), nil, "1\n2\n3\n"),
		same("yours takes an end", of("12", nil, []put{{1, 1, "2|"}}), script([4]int{1, 1, 1, 1}), "1\n2"),
		same("yours brings an end", of("12|", nil, []put{{1, 1, "2"}}), script([4]int{1, 1, 1, 1}), "1\n2\n"),
	})
}

// ME7: a clash is one change, whole, where it tells other lines than mine has there, marks too.
func TestOntoOfClashes(t *testing.T) {
	leadAll(t, []leading{
		{"in the middle", of("123", []put{{1, 1, "x"}}, []put{{1, 1, "yz"}}), [6][]api.Change{nil,
			script([4]int{1, 1, 1, 6}), script([4]int{1, 1, 1, 8}), script([4]int{1, 1, 1, 3}), nil, script([4]int{1, 1, 1, 2}),
		}, [6]string{"",
			rows("1", "<<<<<<< m", "x", "=======", "y", "z", ">>>>>>> y", "3"),
			rows("1", "<<<<<<< m", "x", "||||||| b", "2", "=======", "y", "z", ">>>>>>> y", "3"),
			spaced("1 x y z 3"), spaced("1 x 3"), spaced("1 y z 3"),
		}},
		{"several lines, of which some stay", of("12345", []put{{1, 1, "x"}}, []put{{2, 1, "w"}}), [6][]api.Change{nil,
			script([4]int{1, 2, 1, 7}), script([4]int{1, 2, 1, 10}), script([4]int{1, 2, 1, 4}), nil, script([4]int{1, 2, 1, 2}),
		}, [6]string{"",
			rows("1", "<<<<<<< m", "x", "3", "=======", "2", "w", ">>>>>>> y", "4", "5"),
			rows("1", "<<<<<<< m", "x", "3", "||||||| b", "2", "3", "=======", "2", "w", ">>>>>>> y", "4", "5"),
			spaced("1 x 3 2 w 4 5"), spaced("1 x 3 4 5"), spaced("1 2 w 4 5"),
		}},
		{"without mine", of("1", []put{{0, 1, ""}}, []put{{0, 1, "y"}}), [6][]api.Change{nil,
			script([4]int{0, 0, 0, 4}), script([4]int{0, 0, 0, 6}), script([4]int{0, 0, 0, 1}), nil, script([4]int{0, 0, 0, 1}),
		}, [6]string{"",
			rows("<<<<<<< m", "=======", "y", ">>>>>>> y"),
			rows("<<<<<<< m", "||||||| b", "1", "=======", "y", ">>>>>>> y"),
			"y\n", "", "y\n",
		}},
		{"without yours", of("1", []put{{0, 1, "x"}}, []put{{0, 1, ""}}), [6][]api.Change{nil,
			script([4]int{0, 1, 0, 4}), script([4]int{0, 1, 0, 6}), nil, nil, script([4]int{0, 1, 0, 0}),
		}, [6]string{"",
			rows("<<<<<<< m", "x", "=======", ">>>>>>> y"),
			rows("<<<<<<< m", "x", "||||||| b", "1", "=======", ">>>>>>> y"),
			"x\n", "x\n", "",
		}},
		{"side by side", of("123", []put{{0, 1, "x"}, {2, 1, "x"}}, []put{{0, 1, "y"}, {2, 1, "z"}}), [6][]api.Change{nil,
			script([4]int{0, 1, 0, 5}, [4]int{2, 1, 6, 5}), script([4]int{0, 1, 0, 7}, [4]int{2, 1, 8, 7}),
			script([4]int{0, 1, 0, 2}, [4]int{2, 1, 3, 2}), nil, script([4]int{0, 1, 0, 1}, [4]int{2, 1, 2, 1}),
		}, [6]string{"",
			rows("<<<<<<< m", "x", "=======", "y", ">>>>>>> y", "2", "<<<<<<< m", "x", "=======", "z", ">>>>>>> y"),
			rows("<<<<<<< m", "x", "||||||| b", "1", "=======", "y", ">>>>>>> y", "2", "<<<<<<< m", "x", "||||||| b", "3", "=======", "z", ">>>>>>> y"),
			spaced("x y 2 x z"), spaced("x 2 x"), spaced("y 2 z"),
		}},
		{"with changes of yours ahead and behind", of("12345", []put{{2, 1, "x"}}, []put{{0, 1, ""}, {2, 1, "y"}, {4, 1, "zz"}}), [6][]api.Change{nil,
			script([4]int{0, 1, 0, 0}, [4]int{2, 1, 1, 5}, [4]int{4, 1, 7, 2}), script([4]int{0, 1, 0, 0}, [4]int{2, 1, 1, 7}, [4]int{4, 1, 9, 2}),
			script([4]int{0, 1, 0, 0}, [4]int{2, 1, 1, 2}, [4]int{4, 1, 4, 2}), script([4]int{0, 1, 0, 0}, [4]int{4, 1, 3, 2}),
			script([4]int{0, 1, 0, 0}, [4]int{2, 1, 1, 1}, [4]int{4, 1, 3, 2}),
		}, [6]string{"",
			rows("2", "<<<<<<< m", "x", "=======", "y", ">>>>>>> y", "4", "z", "z"),
			rows("2", "<<<<<<< m", "x", "||||||| b", "3", "=======", "y", ">>>>>>> y", "4", "z", "z"),
			spaced("2 x y 4 z z"), spaced("2 x 4 z z"), spaced("2 y 4 z z"),
		}},
	})
}

// ME7: a byte 10 that Merge puts behind a line of mine makes it another line.
func TestOntoOfEnds(t *testing.T) {
	leadAll(t, []leading{
		{"mine without an end, no lines of yours", of("12|", []put{{1, 1, "x|"}}, []put{{1, 1, ""}}), [6][]api.Change{nil,
			script([4]int{1, 1, 1, 4}), script([4]int{1, 1, 1, 6}), script([4]int{1, 1, 1, 1}), nil, script([4]int{1, 1, 1, 0}),
		}, [6]string{"",
			rows("1", "<<<<<<< m", "x", "=======", ">>>>>>> y"),
			rows("1", "<<<<<<< m", "x", "||||||| b", "2", "=======", ">>>>>>> y"),
			"1\nx\n", "1\nx", "1\n",
		}},
		{"both without an end", of("12|", []put{{1, 1, "wx|"}}, []put{{1, 1, "yz|"}}), [6][]api.Change{nil,
			script([4]int{1, 2, 1, 7}), script([4]int{1, 2, 1, 9}), script([4]int{1, 2, 1, 4}), nil, script([4]int{1, 2, 1, 2}),
		}, [6]string{"",
			rows("1", "<<<<<<< m", "w", "x", "=======", "y", "z", ">>>>>>> y"),
			rows("1", "<<<<<<< m", "w", "x", "||||||| b", "2", "=======", "y", "z", ">>>>>>> y"),
			"1\nw\nx\ny\nz", "1\nw\nx", "1\ny\nz",
		}},
		{"ends alone unlike", of("12", []put{{1, 1, "x|"}}, []put{{1, 1, "x"}}), [6][]api.Change{nil,
			script([4]int{1, 1, 1, 5}), script([4]int{1, 1, 1, 7}), script([4]int{1, 1, 1, 2}), nil, script([4]int{1, 1, 1, 1}),
		}, [6]string{"",
			rows("1", "<<<<<<< m", "x", "=======", "x", ">>>>>>> y"),
			rows("1", "<<<<<<< m", "x", "||||||| b", "2", "=======", "x", ">>>>>>> y"),
			"1\nx\nx\n", "1\nx", "1\nx\n",
		}},
	})
}

// ME7: changes that touch, of either script, are told as one change; one that changes nothing of its chunk takes it whole, with those it met.
func TestOntoOfChangesThatTouch(t *testing.T) {
	leadAll(t, []leading{
		{"yours", handmade("1234", "1234", "1xy4", nil, script([4]int{1, 1, 1, 1}, [4]int{2, 1, 2, 1})), sameByFormat(script([4]int{1, 2, 1, 2})), sameByFormat("1\nx\ny\n4\n")},
		{"yours, of lines that come and go", handmade("1234", "1234", "1xy4", nil, script([4]int{1, 0, 1, 2}, [4]int{1, 2, 3, 0})), sameByFormat(script([4]int{1, 2, 1, 2})), sameByFormat("1\nx\ny\n4\n")},
		{"yours, of which one brings what it takes", handmade("1234", "1234", "12y4", nil, script([4]int{1, 1, 1, 1}, [4]int{2, 1, 2, 1})), sameByFormat(script([4]int{1, 2, 1, 2})), sameByFormat("1\n2\ny\n4\n")},
		{"mine", handmade("1234", "1xy4", "1234", script([4]int{1, 1, 1, 1}, [4]int{2, 1, 2, 1}), nil), sameByFormat([]api.Change(nil)), sameByFormat("1\nx\ny\n4\n")},
	})
}

// ME7: with the labels that are handed in; each of them is told, and in no other format.
func TestOntoTellsLabels(t *testing.T) {
	g := of("1", []put{{0, 1, "x"}}, []put{{0, 1, "y"}})
	s, l, err := g.onto([]string{"one", "", "a b"}, formatThree)
	want := []string{"<<<<<<< one\n", "x\n", "||||||| \n", "1\n", "=======\n", "y\n", ">>>>>>> a b\n"}
	if err != nil || !slices.Equal(s, script([4]int{0, 1, 0, 7})) || !slices.Equal(l, want) {
		t.Errorf("%v, %q, %v", s, l, err)
	}
}

// ME7: changed chunks that touch make one change: of texts that the calls take none do, since calm lines are between.
func TestOntoOfChunksThatTouchByHand(t *testing.T) {
	m := merger{texts: texts{mine: textOf("abcd")}, ends: []int{1, 3, 3, 4}, chunks: []Chunk{
		chunk(Calm, at(0, 0), at(0, 1), at(0, 0)), chunk(Yours, at(0, 0), at(1, 1), at(0, 0)),
		chunk(Clash, at(0, 0), at(2, 1), at(0, 0)), chunk(Calm, at(0, 0), at(3, 1), at(0, 0)),
	}}
	got, err := m.script(textOf("axyd"))
	if want := script([4]int{1, 2, 1, 2}); err != nil || !slices.Equal(got, want) {
		t.Errorf("%v, %v, not %v", got, err, want)
	}
}
