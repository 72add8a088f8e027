package ed

import (
	"iter"
	"selvage/api"
	"selvage/edits"
	"selvage/lines"
	"slices"
	"strconv"
	"strings"
)

const (
	endOfText = ".\n"  // ends the lines of text of a command
	twoDots   = "..\n" // stands for a line that would end them
)

// tell is the text of a script: what is written of each change of the normal one, and of its lines that come, in an order.
func tell(s []api.Change, a, b []string, order func([]api.Change) iter.Seq[api.Change], write func(*strings.Builder, api.Change, []string)) (string, error) {
	if !lines.Valid(a) || !lines.Valid(b) {
		return "", api.ErrForm
	}
	changes, err := edits.Normal(s, len(a), len(b))
	if err != nil {
		return "", err
	}
	if !isWhole(a) || !isWhole(b) {
		return "", api.ErrDot
	}
	var text strings.Builder
	for c := range order(changes) {
		write(&text, c, b[c.B:c.B+c.M])
	}
	return text.String(), nil
}

// isWhole tells whether all of a text's lines are whole: only the last one may be without an end.
func isWhole(l []string) bool {
	return len(l) == 0 || lines.Whole(l[len(l)-1])
}

// fromLast goes through changes from the last one on, so that each command finds the lines ahead of it as they were.
func fromLast(changes []api.Change) iter.Seq[api.Change] {
	return func(yield func(api.Change) bool) {
		for i := len(changes) - 1; i >= 0; i-- {
			if !yield(changes[i]) {
				return
			}
		}
	}
}

// writeEd writes the commands of a change: one, or more where a line that comes would end the lines of text.
func writeEd(text *strings.Builder, c api.Change, come []string) {
	text.WriteString(place(c, ",") + letter(c) + "\n")
	for len(come) > 0 {
		dot := slices.Index(come, endOfText)
		if dot < 0 {
			writeLines(text, come)
			text.WriteString(endOfText)
			return
		}
		writeLines(text, come[:dot])
		text.WriteString(twoDots + endOfText + nameStrip + "\n")
		come = come[dot+1:]
		if len(come) > 0 {
			text.WriteString(nameAppend + "\n")
		}
	}
}

// writeForward writes a change as a person reads it.
func writeForward(text *strings.Builder, c api.Change, come []string) {
	text.WriteString(letter(c) + place(c, " ") + "\n")
	if c.M > 0 {
		writeLines(text, come)
		text.WriteString(endOfText)
	}
}

// writeRcs writes a change as RCS does: what goes, and behind it what comes.
func writeRcs(text *strings.Builder, c api.Change, come []string) {
	if c.N > 0 {
		text.WriteString(nameDelete + strconv.Itoa(c.A+1) + " " + strconv.Itoa(c.N) + "\n")
	}
	if c.M > 0 {
		text.WriteString(nameAppend + strconv.Itoa(c.A+c.N) + " " + strconv.Itoa(c.M) + "\n")
		writeLines(text, come)
	}
}

// writeLines writes lines as they are.
func writeLines(text *strings.Builder, l []string) {
	for _, line := range l {
		text.WriteString(line)
	}
}

// letter is the command of a change.
func letter(c api.Change) string {
	switch {
	case c.N == 0:
		return nameAppend
	case c.M == 0:
		return nameDelete
	}
	return nameChange
}

// place are the old lines of a change, the first one and the last one, or one number, if they are the same; if there are none, the line ahead of the place.
func place(c api.Change, between string) string {
	switch c.N {
	case 0:
		return strconv.Itoa(c.A)
	case 1:
		return strconv.Itoa(c.A + 1)
	}
	return strconv.Itoa(c.A+1) + between + strconv.Itoa(c.A+c.N)
}
