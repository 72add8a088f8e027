package unified

import (
	"selvage/api"
	"selvage/lines"
	"selvage/quote"
	"strconv"
	"strings"
)

// isPrinted tells whether a header may tell a name. A byte 10 in a Path is no fault: it is quoted.
func isPrinted(name api.Name) bool {
	return name.Path != "" && !strings.Contains(name.Path, "\x00") && !strings.ContainsAny(name.Stamp, "\t\n\x00")
}

// writeHeader writes a line of the header.
func writeHeader(b *strings.Builder, mark string, name api.Name) {
	b.WriteString(mark)
	b.WriteString(quote.Quote(name.Path))
	if name.Stamp != "" {
		b.WriteString(stampMark)
		b.WriteString(name.Stamp)
	}
	b.WriteByte('\n')
}

// writeHunk writes a hunk that may be.
func writeHunk(b *strings.Builder, h api.Hunk) {
	b.WriteString(hunkBegin)
	b.WriteString(rangeText(h.A, h.N))
	b.WriteString(hunkMiddle)
	b.WriteString(rangeText(h.B, h.M))
	b.WriteString(hunkClose)
	if h.Head != "" {
		b.WriteByte(' ')
		b.WriteString(h.Head)
	}
	b.WriteByte('\n')
	for _, r := range h.Rows {
		writeRow(b, r)
	}
}

// rangeText is the range of a line and a count.
func rangeText(at, n int) string {
	if n == 1 {
		return strconv.Itoa(at)
	}
	return strconv.Itoa(at) + "," + strconv.Itoa(n)
}

// writeRow writes a row of one of the three kinds.
func writeRow(b *strings.Builder, r api.Row) {
	b.WriteByte(marks[r.Kind-api.RowBoth])
	b.WriteString(r.Text)
	if !lines.Whole(r.Text) {
		b.WriteString("\n" + cutLine + "\n")
	}
}
