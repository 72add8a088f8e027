package scan

import (
	"fmt"
	"strings"
)

// whole is how many places there are at which both texts have a byte.
func whole(a, b string) int {
	if len(a) < len(b) {
		return len(a)
	}
	return len(b)
}

// atMost is a list's beginning, as the words 'at most so many (below 0: all)' have it.
func atMost[T any](l []T, most int) []T {
	if most < 0 || most > len(l) {
		return l
	}
	return l[:most]
}

// firstByWords is what First answers, by SC1 word by word.
func firstByWords(a, b string) (Unlike, bool, int) {
	end := 0
	if len(a) < len(b) {
		end = 1
	}
	if len(b) < len(a) {
		end = 2
	}
	for at := range whole(a, b) {
		if a[at] != b[at] {
			return Unlike{at + 1, 1 + strings.Count(a[:at], "\n"), int(a[at]), int(b[at])}, true, end
		}
	}
	return Unlike{}, false, end
}

// allByWords is what All answers, by SC2: the first place, and those of the texts behind it, by SC1 each.
func allByWords(a, b string, most int) []Unlike {
	var l []Unlike
	offset, line := 0, 0
	for {
		u, found, _ := firstByWords(a[offset:], b[offset:])
		if !found {
			return atMost(l, most)
		}
		next := offset + u.Offset
		l = append(l, Unlike{next, line + u.Line, u.A, u.B})
		line += strings.Count(a[offset:next], "\n")
		offset = next
	}
}

// runsByWords is what Runs answers, by SC5: where a run begins, there is a place, and none ahead of it; it is as long as there are places.
func runsByWords(a, b string, most int) []Span {
	unlike := func(offset int) bool {
		return offset >= 1 && offset <= whole(a, b) && a[offset-1] != b[offset-1]
	}
	var l []Span
	for offset := 1; offset <= whole(a, b); offset++ {
		if !unlike(offset) || unlike(offset-1) {
			continue
		}
		n := 1
		for unlike(offset + n) {
			n++
		}
		l = append(l, Span{offset, n})
	}
	return atMost(l, most)
}

// showByWords is what Show answers, by SC3, of a number of any size.
func showByWords(c int) string {
	low := ((c % 256) + 256) % 256
	mark := ""
	if low >= 128 {
		mark, low = "M-", low-128
	}
	if low < 32 {
		return mark + "^" + "@ABCDEFGHIJKLMNOPQRSTUVWXYZ[\\]^_"[low:low+1]
	}
	if low == 127 {
		return mark + "^?"
	}
	return mark + " !\"#$%&'()*+,-./0123456789:;<=>?@ABCDEFGHIJKLMNOPQRSTUVWXYZ[\\]^_`abcdefghijklmnopqrstuvwxyz{|}~"[low-32:low-31]
}

// told is all that the calls answer for two texts, and so many places, as a text.
func told(a, b string, most int) string {
	u, found, end := First(a, b)
	return fmt.Sprint(u, found, end, All(a, b, most), Runs(a, b, most))
}

// toldByWords is the same by the words.
func toldByWords(a, b string, most int) string {
	u, found, end := firstByWords(a, b)
	return fmt.Sprint(u, found, end, allByWords(a, b, most), runsByWords(a, b, most))
}
