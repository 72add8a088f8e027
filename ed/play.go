package ed

import (
	"selvage/api"
	"selvage/lines"
	"strconv"
	"strings"
)

// fault is an error at a command, by the command's line.
type fault struct {
	line int
	err  error
}

// Error tells the line and the error.
func (f fault) Error() string { return "line " + strconv.Itoa(f.line) + ": " + f.err.Error() }

// Unwrap is the error alone.
func (f fault) Unwrap() error { return f.err }

// machine does commands one by one.
type machine interface {
	step(s *source) error // does the next command, of a text that goes on
	lines() []string      // are the lines, as the commands leave them
}

// play does all commands of a text: the lines that they leave, which were l.
func play(text string, l []string, m machine) ([]string, error) {
	if !lines.Valid(l) || !isWhole(l) {
		return nil, api.ErrForm
	}
	if len(text) > api.MaxBytes {
		return nil, api.ErrLong
	}
	s := source{rest: text}
	for s.rest != "" {
		at := s.line + 1
		if err := m.step(&s); err != nil {
			return nil, fault{at, err}
		}
	}
	return m.lines(), nil
}

// source is a text of commands that is read line by line.
type source struct {
	rest string // what is not read yet
	line int    // how many lines are read
}

// next reads the next line; it is empty, if there is none.
func (s *source) next() string {
	n := strings.IndexByte(s.rest, '\n') + 1
	if n == 0 {
		n = len(s.rest)
	}
	line := s.rest[:n]
	s.rest = s.rest[n:]
	s.line++
	return line
}

// text reads lines up to the one that ends them; false, if there is none.
func (s *source) text() ([]string, bool) {
	var l []string
	for s.rest != "" {
		line := s.next()
		if line == endOfText {
			return l, true
		}
		l = append(l, line)
	}
	return nil, false
}

// take reads so many whole lines; false, if there are not as many.
func (s *source) take(n int) ([]string, bool) {
	// A command may ask for far more lines than there are, so room is made only for those that come.
	var l []string
	for range n {
		line := s.next()
		if !lines.Whole(line) {
			return nil, false
		}
		l = append(l, line)
	}
	return l, true
}

// quit leaves all that is not read yet.
func (s *source) quit() {
	s.rest = ""
}

// size is how many bytes lines have together.
func size(l []string) int {
	n := 0
	for _, line := range l {
		n += len(line)
	}
	return n
}
