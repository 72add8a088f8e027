package stat

import (
	"selvage/api"
	"selvage/hunks"
	"strconv"
)

// isNumber tells whether there may be so many lines.
func isNumber(n int) bool {
	return n >= 0 && n <= api.MaxNumber
}

// isCount tells whether a file may gain and lose so many lines.
func (c Count) isCount() bool {
	return isNumber(c.Adds) && isNumber(c.Dels)
}

// lines is how many lines come and go.
func (c Count) lines() int {
	return c.Adds + c.Dels
}

// plus is a count with another one's lines.
func (c Count) plus(other Count) Count {
	return Count{Name: c.Name, Adds: c.Adds + other.Adds, Dels: c.Dels + other.Dels}
}

// withHunks is a count with the lines of hunks that come and go.
func (c Count) withHunks(l []api.Hunk) (Count, error) {
	for _, h := range l {
		if err := hunks.Valid(h); err != nil {
			return Count{}, err
		}
		c = c.withRows(h.Rows)
	}
	if !c.isCount() {
		return Count{}, api.ErrLong
	}
	return c, nil
}

// withRows is a count with the lines of rows that come and go.
func (c Count) withRows(rows []api.Row) Count {
	for _, r := range rows {
		switch r.Kind {
		case api.RowNew:
			c.Adds++
		case api.RowOld:
			c.Dels++
		}
	}
	return c
}

// inAll is the lines of a list that may be.
func inAll(l []Count) (Count, error) {
	if len(l) > api.MaxNodes {
		return Count{}, api.ErrArg
	}
	all := Count{}
	for _, c := range l {
		if !c.isCount() {
			return Count{}, api.ErrArg
		}
		// So few counts, each of them in its bounds, can't come to more than an int holds.
		all = all.plus(c)
	}
	if !all.isCount() {
		return Count{}, api.ErrArg
	}
	return all, nil
}

// scaled is a number of lines as columns, where most of them are as many as the width.
func scaled(n, width, most int) int {
	if n == 0 {
		return 0
	}
	// At most 2^32 - 2 lines, and a width below 2^31: an int holds what they make.
	return 1 + n*(width-1)/most
}

// counted is a number of things, with what is told of them.
func counted(n int, thing, told string) string {
	if n != 1 {
		thing += "s"
	}
	return strconv.Itoa(n) + " " + thing + told
}
