package glob

import (
	"selvage/api"
	"slices"
	"strings"
)

const (
	lineEnd  = "\n"
	blank    = " "
	remark   = "#"
	takeBack = "!"
	slash    = "/"
	anyNames = "**"
)

// Rules are patterns of paths, one a line, the last one that means a path decides.
type Rules struct {
	list []rule
}

// rule means the paths whose names its pieces mean, in order.
type rule struct {
	pieces []piece
	dirs   bool // it means directories alone
	back   bool // it takes back what the rules ahead of it ignore
}

// piece means one name, by a pattern, or many names, whatever they are, also none.
type piece struct {
	name *Glob
	many bool
}

// Read reads rules; the line of the first that is none.
func Read(text string) (*Rules, int, error) {
	if len(text) > api.MaxBytes {
		return nil, 0, api.ErrLong
	}
	rules := &Rules{}
	for number := 1; text != ""; number++ {
		line, rest, _ := strings.Cut(text, lineEnd)
		text = rest
		line = trimBlanks(line)
		if line == "" || strings.HasPrefix(line, remark) {
			continue
		}
		r, err := readRule(line)
		if err != nil {
			return nil, number, err
		}
		rules.list = append(rules.list, r)
	}
	return rules, 0, nil
}

// trimBlanks is a line without the blanks at its end, but for one that a backslash keeps.
func trimBlanks(line string) string {
	trimmed := strings.TrimRight(line, blank)
	if strings.HasSuffix(trimmed, backslash) && len(trimmed) < len(line) {
		return line[:len(trimmed)+len(blank)]
	}
	return trimmed
}

// readRule reads a line that is a rule.
func readRule(line string) (rule, error) {
	line, back := strings.CutPrefix(line, takeBack)
	line, dirs := strings.CutSuffix(line, slash)
	if line == "" {
		return rule{}, api.ErrGlob
	}
	pieces, err := readPieces(line)
	return rule{pieces, dirs, back}, err
}

// readPieces reads what a rule says of the names of a path.
func readPieces(text string) ([]piece, error) {
	if !strings.Contains(text, slash) {
		g, err := Compile(text)
		// Whatever directory the name stands in.
		return []piece{{many: true}, {name: g}}, err
	}
	texts := strings.Split(strings.TrimPrefix(text, slash), slash)
	pieces := make([]piece, 0, len(texts))
	for _, s := range texts {
		p, err := readPiece(s)
		if err != nil {
			return nil, err
		}
		pieces = append(pieces, p)
	}
	if last := len(pieces) - 1; last > 0 && pieces[last].many {
		// What lies in a directory is meant, the directory is not: one name at least stands there.
		pieces = append(pieces, piece{name: &Glob{parts: []part{{many: true}}}})
	}
	return pieces, nil
}

// readPiece reads a piece of a rooted rule.
func readPiece(text string) (piece, error) {
	if text == anyNames {
		return piece{many: true}, nil
	}
	g, err := Compile(text)
	return piece{name: g}, err
}

// Ignored tells whether rules ignore a path.
func (r *Rules) Ignored(path string, dir bool) bool {
	names := slices.DeleteFunc(strings.Split(path, slash), func(name string) bool { return name == "" })
	ignored := make([]bool, len(names)) // of each beginning of the path
	for _, one := range r.list {
		one.mark(ignored, names, dir)
	}
	return slices.Contains(ignored, true)
}

// mark sets for each beginning of a path that the rule means whether it is ignored.
func (r rule) mark(ignored []bool, names []string, dir bool) {
	// All beginnings at once: asked one by one, a path of many names would take the square of their number.
	places := r.reach(nil, 0)
	for i, name := range names {
		places = r.step(places, name)
		if len(places) == 0 {
			return
		}
		isDir := dir || i < len(names)-1
		if places[len(places)-1] == len(r.pieces) && (isDir || !r.dirs) {
			ignored[i] = !r.back
		}
	}
}

// step is how many pieces may be used up behind one more name (each number once, rising), from how many may be ahead of it.
func (r rule) step(places []int, name string) []int {
	var next []int
	for _, at := range places {
		if at == len(r.pieces) {
			break // nothing is left that could mean the name
		}
		if r.pieces[at].many {
			next = r.reach(next, at)
		} else if r.pieces[at].name.Match(name) {
			next = r.reach(next, at+1)
		}
	}
	return next
}

// reach adds a place, and those behind it to which one comes without a name.
func (r rule) reach(places []int, at int) []int {
	// Places rise: one that is not beyond the last of them is there already, and so is what follows it.
	for len(places) == 0 || places[len(places)-1] < at {
		places = append(places, at)
		if at < len(r.pieces) && r.pieces[at].many {
			at++
		}
	}
	return places
}
