package ed

import (
	"errors"
	"fmt"
	"selvage/api"
	"selvage/lines"
	"slices"
	"testing"
)

// script are changes by their numbers, A, N, B, M.
func script(numbers [][4]int) []api.Change {
	var s []api.Change
	for _, c := range numbers {
		s = append(s, api.Change{A: c[0], N: c[1], B: c[2], M: c[3]})
	}
	return s
}

// printer is a call that prints a script; player is one that does commands.
type printer func(s []api.Change, a, b []string) (string, error)
type player func(text string, l []string) ([]string, int, error)

// printers are all calls that print, by their names.
func printers() map[string]printer {
	return map[string]printer{"Print": Print, "Forward": Forward, "Rcs": Rcs}
}

// players are all calls that do commands, by their names.
func players() map[string]player {
	return map[string]player{"Run": Run, "Patch": Patch}
}

// answers is what a player answers.
type answers struct {
	l    []string
	line int
	err  error
}

// run is Run with its answers put together.
func run(text string, l []string) answers {
	made, line, err := Run(text, l)
	return answers{made, line, err}
}

// patch is Patch with its answers put together.
func patch(text string, l []string) answers {
	made, line, err := Patch(text, l)
	return answers{made, line, err}
}

// made is the answer of the lines of a text.
func made(text string) answers {
	return answers{l: lines.Split(text)}
}

// wrong is the answer of a text with a fault.
func wrong(line int, err error) answers {
	return answers{line: line, err: err}
}

// same tells whether two answers are the same.
func (x answers) same(y answers) bool {
	return x.line == y.line && x.err == y.err && slices.Equal(x.l, y.l)
}

// String is an answer as a text.
func (x answers) String() string {
	return fmt.Sprintf("%q, line %d, %v", x.l, x.line, x.err)
}

// isErr fails where an error is not the one that is wanted.
func isErr(t *testing.T, what string, err, want error) {
	t.Helper()
	if want == nil && err != nil || !errors.Is(err, want) {
		t.Errorf("%s: %v, not %v", what, err, want)
	}
}

// isText fails where a text is not the one that is wanted, or there is an error.
func isText(t *testing.T, what, got string, err error, want string) {
	t.Helper()
	if err != nil || got != want {
		t.Errorf("%s: %.300q, %v, not %.300q", what, got, err, want)
	}
}

// noText fails where there is another error than the one that is wanted, or a text beside it.
func noText(t *testing.T, what, got string, err, want error) {
	t.Helper()
	isErr(t, what, err, want)
	if got != "" {
		t.Errorf("%s: %q beside %v", what, got, err)
	}
}

// isAnswer fails where an answer is not the one that is wanted.
func isAnswer(t *testing.T, what string, got, want answers) {
	t.Helper()
	if !got.same(want) {
		t.Errorf("%.300s: %.300v, not %.300v", what, got, want)
	}
}

// runs fails where what Run answers of a text of commands and a text is not what is wanted.
func runs(t *testing.T, text, old string, want answers) {
	t.Helper()
	isAnswer(t, fmt.Sprintf("Run of %q with %q", text, old), run(text, lines.Split(old)), want)
}

// patches fails where what Patch answers of a text of commands and a text is not what is wanted.
func patches(t *testing.T, text, old string, want answers) {
	t.Helper()
	isAnswer(t, fmt.Sprintf("Patch of %q with %q", text, old), patch(text, lines.Split(old)), want)
}

// smallTexts are all texts of at most so many of some pieces, put together.
func smallTexts(pieces []string, most int) []string {
	all := []string{""}
	for from := 0; most > 0; most-- {
		longest := all[from:]
		from = len(all)
		for _, s := range longest {
			for _, piece := range pieces {
				all = append(all, s+piece)
			}
		}
	}
	return all
}

// steps are numbers that look like chance, the same ones each time.
type steps uint64

// below is the next number, from 0 to n - 1.
func (s *steps) below(n int) int {
	*s = *s*6364136223846793005 + 1442695040888963407
	return int(uint64(*s) >> 33 % uint64(n))
}

// The chapter's examples.
func TestExamples(t *testing.T) {
	a, b := lines.Split("1\n2\n3\n4\n"), lines.Split("1\nx\n.\n4\n5\n")
	s := script([][4]int{{1, 2, 1, 2}, {4, 0, 4, 1}})
	text, err := Print(s, a, b)
	isText(t, "Print", text, err, "4a\n5\n.\n2,3c\nx\n..\n.\ns/.//\n")
	isAnswer(t, "Run of it", run(text, a), answers{l: b})
	text, err = Rcs(s, a, b)
	isText(t, "Rcs", text, err, "d2 2\na3 2\nx\n.\na4 1\n5\n")
	isAnswer(t, "Patch of it", patch(text, a), answers{l: b})
	text, err = Forward(s, a, b)
	isText(t, "Forward", text, err, "c2 3\nx\n.\n.\na4\n5\n.\n")
	runs(t, "$d\n", "1\n2\n", made("1\n"))
	runs(t, "0d\n", "1\n2\n", wrong(1, api.ErrPlace))
	runs(t, "1a\nx\n", "1\n2\n", wrong(1, api.ErrDot))
	runs(t, "0a\nx\n.\n", "", made("x\n"))
	runs(t, "1z\n", "1\n2\n", wrong(1, api.ErrForm))
}
