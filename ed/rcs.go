package ed

import (
	"selvage/api"
	"selvage/lines"
	"strings"
)

// weaver does the commands of RCS, which go through the old lines once.
type weaver struct {
	old   []string
	made  []string // what has become of the old lines that are used
	used  int      // how many old lines are used
	bytes int      // how many all lines have together: those made, and the old ones that are not used
}

// newWeaver is a weaver with these old lines.
func newWeaver(l []string) *weaver {
	return &weaver{old: l, bytes: size(l)}
}

// lines are the lines that all commands leave: what is not used stays.
func (w *weaver) lines() []string {
	w.use(len(w.old))
	return w.made
}

// step does the next command.
func (w *weaver) step(s *source) error {
	name, line, n, ok := readRcs(s.next())
	if !ok {
		return api.ErrForm
	}
	if name == nameDelete {
		return w.remove(line, n)
	}
	return w.add(s, line, n)
}

// remove lets n old lines go, from a line on.
func (w *weaver) remove(line, n int) error {
	if line <= w.used || n > len(w.old)-line+1 {
		return api.ErrPlace
	}
	w.use(line - 1)
	w.bytes -= size(w.old[w.used : w.used+n])
	w.used += n
	return nil
}

// add lets n lines of text come behind an old line.
func (w *weaver) add(s *source, line, n int) error {
	if line < w.used || line > len(w.old) {
		return api.ErrPlace
	}
	come, ok := s.take(n)
	if !ok {
		return api.ErrDot
	}
	w.use(line)
	w.made = append(w.made, come...)
	w.bytes += size(come)
	return fits(w.bytes)
}

// use lets the old lines stay that are not used yet, up to a line.
func (w *weaver) use(line int) {
	w.made = append(w.made, w.old[w.used:line]...)
	w.used = line
}

// readRcs reads a line as a command: its name, the line that it means, and how many lines go, or come; false, if it is none.
func readRcs(text string) (string, int, int, bool) {
	if !lines.Whole(text) {
		return "", 0, 0, false
	}
	// Whole, so there is a byte to cut off, if only the end.
	name, numbers := text[:1], lines.Bare(text[1:])
	first, second, _ := strings.Cut(numbers, " ")
	line, isLine := number(first)
	n, isCount := number(second)
	return name, line, n, (name == nameDelete || name == nameAppend) && isLine && isCount && n > 0
}
