package unified

import (
	"selvage/api"
	"selvage/difftext"
	"selvage/hunks"
)

// check tells what is wrong with hunks. What each of them is comes ahead of how they stand, so they are gone through twice.
func check(l []api.Hunk) error {
	for _, h := range l {
		if err := hunks.Valid(h); err != nil {
			return err
		}
	}
	for i, h := range l {
		if !difftext.InOrder(l[:i], h) {
			return api.ErrOrder
		}
	}
	return nil
}
