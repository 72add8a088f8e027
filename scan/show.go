package scan

// Show is a byte as cmp tells it.
func Show(c int) string {
	c &= 255
	switch {
	case c >= 128:
		return "M-" + Show(c-128)
	case c < 32:
		return "^" + Show(c+64)
	case c == 127:
		return "^?"
	}
	return string(rune(c))
}
