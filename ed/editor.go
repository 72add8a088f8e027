package ed

import (
	"selvage/api"
	"selvage/lines"
)

// editor does the commands of the editor.
type editor struct {
	all     *rope
	bytes   int // how many all lines have together
	current int // the current line, from 1 on; 0: ahead of them all
}

// newEditor is an editor with these lines.
func newEditor(l []string) *editor {
	return &editor{leaf(l), size(l), len(l)}
}

// lines are the lines as they are now.
func (e *editor) lines() []string {
	return e.all.lines()
}

// step does the next command.
func (e *editor) step(s *source) error {
	c, ok := readCommand(s.next())
	if !ok {
		return api.ErrForm
	}
	first, last := e.meant(c.addresses)
	if first > last || last > e.all.len() || first == 0 && !c.zero {
		return api.ErrPlace
	}
	var come []string
	if c.text {
		come, ok = s.text()
		if !ok {
			return api.ErrDot
		}
	}
	if c.name == nameQuit {
		s.quit()
	}
	return e.do(c.name, first, last, come)
}

// meant are the first line and the last one that addresses mean, whether there are such lines or not.
func (e *editor) meant(addresses []string) (int, int) {
	if len(addresses) == 0 {
		return e.current, e.current
	}
	return e.line(addresses[0]), e.line(addresses[len(addresses)-1])
}

// line is the line that an address means.
func (e *editor) line(address string) int {
	switch address {
	case currentLine:
		return e.current
	case lastLine:
		return e.all.len()
	}
	n, _ := number(address)
	return n
}

// do does a command with the lines that it means, and those of text.
func (e *editor) do(name string, first, last int, come []string) error {
	switch name {
	case nameAppend:
		return e.replace(last, 0, come)
	case nameInsert:
		return e.replace(max(last, 1)-1, 0, come)
	case nameChange, nameDelete:
		return e.replace(first-1, last-first+1, come)
	case nameStrip:
		return e.strip(first - 1)
	}
	return fits(e.bytes)
}

// replace puts lines in the place of n lines behind so many others.
func (e *editor) replace(ahead, n int, come []string) error {
	left, rest := e.all.split(ahead)
	gone, right := rest.split(n)
	bytes := e.bytes + size(come)
	gone.each(func(piece []string) { bytes -= size(piece) })
	if err := fits(bytes); err != nil {
		return err
	}
	e.all = join(join(left, leaf(come)), right)
	e.bytes = bytes
	e.current = ahead + len(come)
	if n > 0 && len(come) == 0 {
		// The line behind those that went, if there is one.
		e.current = min(ahead+1, e.all.len())
	}
	return nil
}

// strip takes its first byte from the line behind so many others.
func (e *editor) strip(ahead int) error {
	line := e.all.at(ahead)
	if err := e.replace(ahead, 1, []string{line[1:]}); err != nil {
		return err
	}
	// The line's end must stay. That there is room is asked first, though a line without a byte ahead of its end can't be stripped.
	if lines.Bare(line) == "" {
		return api.ErrForm
	}
	return nil
}

// fits tells whether lines may have so many bytes together.
func fits(bytes int) error {
	if bytes > api.MaxBytes {
		return api.ErrLong
	}
	return nil
}
