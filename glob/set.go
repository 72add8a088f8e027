package glob

import (
	"selvage/api"
	"strings"
)

const (
	closeSet  = "]"
	openClass = "[:"
	rangeMark = "-"

	wordBits = 64
)

// flags are as many as there are bytes: a set of them. They are bits, since rules may have millions of parts.
type flags [256 / wordBits]uint64

// has tells whether a byte's flag is set. (By a pointer: it is asked at each step of a match, where a copy would cost more than the look.)
func (f *flags) has(c byte) bool {
	return f[c/wordBits]>>(c%wordBits)&1 == 1
}

// with is these flags, and those of the bytes from low to high set too.
func (f flags) with(low, high byte) flags {
	// Counted in a greater kind than a byte, which would never come beyond 255.
	for c := int(low); c <= int(high); c++ {
		f[c/wordBits] |= 1 << (c % wordBits)
	}
	return f
}

// others has just those set that these have not.
func (f flags) others() flags {
	for i := range f {
		f[i] = ^f[i]
	}
	return f
}

// readSet reads a set from behind its bracket on; what stands behind it.
func readSet(text string) (flags, string, error) {
	var set flags
	text, not := cutNot(text)
	// The first item is read whatever it is: there must be one, and it may be a bracket.
	for first := true; first || !strings.HasPrefix(text, closeSet); first = false {
		var err error
		if set, text, err = readItem(set, text); err != nil {
			return flags{}, "", err
		}
	}
	if not {
		set = set.others()
	}
	return set, text[len(closeSet):], nil
}

// cutNot is a text without the mark at its beginning that turns a set round, and whether there was one.
func cutNot(text string) (string, bool) {
	if strings.HasPrefix(text, "!") || strings.HasPrefix(text, "^") {
		return text[1:], true
	}
	return text, false
}

// readItem adds what an item means to a set; what stands behind the item.
func readItem(set flags, text string) (flags, string, error) {
	if strings.HasPrefix(text, openClass) {
		return readClass(set, text)
	}
	low, text, err := readByte(text)
	if err != nil {
		return flags{}, "", err
	}
	high := low
	if beginsRange(text) {
		if high, text, err = readByte(text[len(rangeMark):]); err != nil {
			return flags{}, "", err
		}
	}
	return set.with(low, high), text, nil
}

// beginsRange tells whether what stands behind a byte makes it the first one of a range.
func beginsRange(text string) bool {
	rest, marked := strings.CutPrefix(text, rangeMark)
	return marked && !strings.HasPrefix(rest, closeSet) && !strings.HasPrefix(rest, openClass)
}

// readClass adds the bytes of a class to a set; what stands behind the class.
func readClass(set flags, text string) (flags, string, error) {
	for _, row := range classes() {
		if rest, found := strings.CutPrefix(text, row.name); found {
			return withClass(set, row), rest, nil
		}
	}
	return flags{}, "", api.ErrGlob
}

// withClass is a set with the bytes of a class in it too.
func withClass(set flags, row class) flags {
	for i := range 256 {
		if c := byte(i); row.has(c) {
			set = set.with(c, c)
		}
	}
	return set
}

// class is a kind of bytes: its name as it stands in a set, and which bytes it has.
type class struct {
	name string
	has  func(c byte) bool
}

// classes are all there are.
func classes() []class {
	upper, lower, digit := between('A', 'Z'), between('a', 'z'), between('0', '9')
	alpha := either(upper, lower)
	alnum := either(alpha, digit)
	graph := between('!', '~')
	return []class{
		{"[:alpha:]", alpha},
		{"[:digit:]", digit},
		{"[:alnum:]", alnum},
		{"[:upper:]", upper},
		{"[:lower:]", lower},
		{"[:xdigit:]", either(digit, between('a', 'f'), between('A', 'F'))},
		{"[:space:]", either(between('\t', '\r'), between(' ', ' '))},
		{"[:blank:]", func(c byte) bool { return c == '\t' || c == ' ' }},
		{"[:punct:]", func(c byte) bool { return graph(c) && !alnum(c) }},
		{"[:print:]", between(' ', '~')},
		{"[:graph:]", graph},
		{"[:cntrl:]", func(c byte) bool { return c < ' ' || c == 127 }},
	}
}

// between has the bytes from first to last.
func between(first, last byte) func(c byte) bool {
	return func(c byte) bool { return first <= c && c <= last }
}

// either has the bytes that one of these has.
func either(kinds ...func(c byte) bool) func(c byte) bool {
	return func(c byte) bool {
		for _, has := range kinds {
			if has(c) {
				return true
			}
		}
		return false
	}
}
