package merge

import (
	"selvage/lines"
	"strconv"
	"strings"
)

// cutLine stands behind a line without an end.
const cutLine = `\ No newline at end of file`

// share is what one of the three texts has of a chunk.
type share struct {
	number int // which text
	ahead  int // how many of its lines are ahead of the chunk
	lines  []string
}

// writeDifference writes a chunk that somebody changed: of two texts that are the same there only the later one's lines.
func writeDifference(text *strings.Builder, c Chunk, part texts) {
	mine, base, yours := share{1, c.Mine, part.mine}, share{2, c.Base, part.base}, share{3, c.Yours, part.yours}
	switch c.Kind {
	case Mine:
		text.WriteString("====1\n")
		mine.write(text)
		base.writePlace(text)
		yours.write(text)
	case Yours:
		text.WriteString("====3\n")
		mine.writePlace(text)
		base.write(text)
		yours.write(text)
	case Both:
		text.WriteString("====2\n")
		mine.writePlace(text)
		yours.write(text)
		base.write(text)
	default:
		text.WriteString("====\n")
		mine.write(text)
		base.write(text)
		yours.write(text)
	}
}

// write writes where a text's lines stand, and them.
func (s share) write(text *strings.Builder) {
	s.writePlace(text)
	for _, line := range s.lines {
		text.WriteString("  " + lines.Bare(line) + "\n")
		if !lines.Whole(line) {
			text.WriteString(cutLine + "\n")
		}
	}
}

// writePlace writes where a text's lines stand.
func (s share) writePlace(text *strings.Builder) {
	text.WriteString(strconv.Itoa(s.number) + ":")
	if len(s.lines) == 0 {
		text.WriteString(strconv.Itoa(s.ahead) + "a\n")
		return
	}
	text.WriteString(strconv.Itoa(s.ahead + 1))
	if len(s.lines) > 1 {
		text.WriteString("," + strconv.Itoa(s.ahead+len(s.lines)))
	}
	text.WriteString("c\n")
}
