package hunks

import (
	"selvage/api"
	"selvage/lines"
	"slices"
	"strings"
)

// mostHead is how many bytes of a line a heading has at most.
const mostHead = 40

// Head is the heading of the place ahead of a line.
func Head(a []string, at int) string {
	for _, line := range slices.Backward(a[:max(0, min(at, len(a)))]) {
		if isHeading(line) {
			return heading(line)
		}
	}
	return ""
}

// Named is hunks with their headings.
func Named(l []api.Hunk, a []string) []api.Hunk {
	// Sought once for all hunks: where headings are far apart, each hunk by itself would go through the text anew.
	places := headings(a)
	named := make([]api.Hunk, len(l))
	for i, h := range l {
		// Below 0 all places are alike, and one less than the least int would be the greatest.
		at, _ := slices.BinarySearch(places, ahead(max(h.A, 0), h.N))
		h.Head = ""
		if at > 0 {
			h.Head = heading(a[places[at-1]])
		}
		h.Rows = slices.Clone(h.Rows)
		named[i] = h
	}
	return named
}

// headings are the places of the lines that are headings, rising.
func headings(a []string) []int {
	var places []int
	for i, line := range a {
		if isHeading(line) {
			places = append(places, i)
		}
	}
	return places
}

// isHeading tells whether a line is a heading of what is behind it.
func isHeading(line string) bool {
	if line == "" {
		return false
	}
	c := line[0]
	return c >= 'a' && c <= 'z' || c >= 'A' && c <= 'Z' || c == '_' || c == '$'
}

// heading is what is told of a line that is a heading.
func heading(line string) string {
	text := lines.Bare(line)
	text = text[:min(len(text), mostHead)]
	text = strings.ReplaceAll(text, "\t", " ")
	return strings.TrimRight(text[:printable(text)], " ")
}

// printable is how many bytes stand ahead of the first one of a text that is below 32 or is 127.
func printable(text string) int {
	for i := range len(text) {
		if text[i] < 32 || text[i] == 127 {
			return i
		}
	}
	return len(text)
}
