package unified

import (
	"selvage/api"
	"selvage/hunks"
)

// check tells what is wrong with hunks. What each of them is comes ahead of how they stand, so they are gone through twice.
func check(l []api.Hunk) error {
	for _, h := range l {
		if err := hunks.Valid(h); err != nil {
			return err
		}
	}
	for i, h := range l {
		if !inOrder(l[:i], h) {
			return api.ErrOrder
		}
	}
	return nil
}

// inOrder tells whether a hunk may stand behind others.
func inOrder(ahead []api.Hunk, h api.Hunk) bool {
	if len(ahead) == 0 {
		return true
	}
	last := ahead[len(ahead)-1]
	return firstLine(h.A, h.N) >= firstLine(last.A, last.N)+last.N &&
		firstLine(h.B, h.M) >= firstLine(last.B, last.M)+last.M
}

// firstLine is the first line of a side that is told as n lines from the line at on; of one without lines that behind its place.
func firstLine(at, n int) int {
	if n == 0 {
		return at + 1
	}
	return at
}
