package unified

import (
	"selvage/api"
	"selvage/difftext"
	"strconv"
	"strings"
)

// isPrinted tells whether a header may tell a name. A byte 10 in a Path is no fault: it is quoted.
func isPrinted(name api.Name) bool {
	return name.Path != "" && !strings.Contains(name.Path, "\x00") && !strings.ContainsAny(name.Stamp, "\t\n\x00")
}

// writeHunk writes a hunk that may be.
func writeHunk(b *strings.Builder, h api.Hunk) {
	b.WriteString(hunkBegin)
	b.WriteString(rangeText(h.A, h.N))
	b.WriteString(hunkMiddle)
	b.WriteString(rangeText(h.B, h.M))
	b.WriteString(hunkClose)
	difftext.WriteHead(b, h.Head)
	for _, r := range h.Rows {
		at := r.Kind - api.RowBoth
		difftext.WriteRow(b, marks[at:at+1], r.Text)
	}
}

// rangeText is the range of a line and a count.
func rangeText(at, n int) string {
	if n == 1 {
		return strconv.Itoa(at)
	}
	return strconv.Itoa(at) + "," + strconv.Itoa(n)
}
