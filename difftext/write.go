package difftext

import (
	"selvage/api"
	"selvage/lines"
	"selvage/quote"
	"strconv"
	"strings"
)

// writeHeader writes a line of the header.
func writeHeader(b *strings.Builder, mark string, name api.Name) {
	b.WriteString(mark)
	b.WriteString(quote.Quote(name.Path))
	if name.Stamp != "" {
		b.WriteString(stampMark)
		b.WriteString(name.Stamp)
	}
	b.WriteByte('\n')
}

// RangeText is the range of so many lines from the first one on; of none, and of one, it is one number.
func RangeText(first, n int) string {
	if n < 2 {
		return strconv.Itoa(first)
	}
	return strconv.Itoa(first) + "," + strconv.Itoa(first+n-1)
}

// WriteHead writes what ends a hunk's first line: its heading, if it has one.
func WriteHead(b *strings.Builder, head string) {
	if head != "" {
		b.WriteByte(' ')
		b.WriteString(head)
	}
	b.WriteByte('\n')
}

// WriteRow writes a row's line behind its mark, and, if it has no end, the line that says so.
func WriteRow(b *strings.Builder, mark, line string) {
	b.WriteString(mark)
	b.WriteString(line)
	if !lines.Whole(line) {
		b.WriteString("\n" + cutLine + "\n")
	}
}
