package merge

import (
	"selvage/api"
	"selvage/lines"
	"strings"
)

// page is a text that is written line by line, up to api.MaxBytes.
type page struct {
	strings.Builder
	count  int  // how many lines were written
	isOver bool // something had no room
}

// write writes a piece of the text, if there is room.
func (p *page) write(piece string) {
	p.isOver = p.isOver || len(piece) > api.MaxBytes-p.Len()
	if !p.isOver {
		p.WriteString(piece)
	}
}

// part writes lines as they are.
func (p *page) part(l []string) {
	for _, line := range l {
		p.write(line)
	}
	p.count += len(l)
}

// whole writes lines, the last of which gets its end, if it has none.
func (p *page) whole(l []string) {
	p.part(l)
	if len(l) > 0 && !lines.Whole(l[len(l)-1]) {
		p.write("\n")
	}
}

// mark writes a line of its own between the parts.
func (p *page) mark(line string) {
	p.write(line + "\n")
	p.count++
}
