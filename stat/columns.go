package stat

import (
	"selvage/quote"
	"strconv"
	"strings"
)

const (
	aroundColumns = 5 // columns of a row beside its three parts
	leastBarWidth = 10
)

// columns are how wide the parts of a table's rows are, and how many lines the greatest of its files has.
type columns struct {
	name, number, bar int
	most              int
}

// quoted are the names of counts as rows tell them.
func quoted(l []Count) []string {
	names := make([]string, 0, len(l))
	for _, c := range l {
		names = append(names, quote.Quote(c.Name))
	}
	return names
}

// columnsOf are the columns of a table of counts and their names.
func columnsOf(l []Count, names []string, width int) columns {
	cols := columns{}
	for i, c := range l {
		cols.name = max(cols.name, len(names[i]))
		cols.most = max(cols.most, c.lines())
	}
	cols.number = len(strconv.Itoa(cols.most))
	cols.bar = max(width-cols.name-cols.number-aroundColumns, leastBarWidth)
	return cols
}

// writeRow writes the row of a count.
func (cols columns) writeRow(text *strings.Builder, name string, c Count) {
	number := strconv.Itoa(c.lines())
	text.WriteString(" " + name)
	writeBlanks(text, cols.name-len(name))
	text.WriteString(" | ")
	writeBlanks(text, cols.number-len(number))
	text.WriteString(number)
	if plus, minus := Bar(c.Adds, c.Dels, cols.bar, cols.most); plus+minus > 0 {
		text.WriteString(" " + strings.Repeat("+", plus) + strings.Repeat("-", minus))
	}
	text.WriteByte('\n')
}

// writeBlanks writes so many blanks.
func writeBlanks(text *strings.Builder, n int) {
	text.WriteString(strings.Repeat(" ", n))
}
