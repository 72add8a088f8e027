package scan

import (
	"math"
	"testing"
)

// isShow fails where Show does not answer what is wanted.
func isShow(t *testing.T, c int, want string) {
	t.Helper()
	if got := Show(c); got != want {
		t.Errorf("Show(%d): %q, not %q", c, got, want)
	}
}

// SC3: the bytes at which what is told changes, on both sides of the 128.
func TestShow(t *testing.T) {
	for c, want := range map[int]string{
		0: "^@", 1: "^A", 9: "^I", 26: "^Z", 27: "^[", 30: "^^", 31: "^_",
		32: " ", 33: "!", 34: "\"", 45: "-", 48: "0", 63: "?", 64: "@", 65: "A", 77: "M", 92: "\\", 94: "^", 97: "a", 126: "~",
		127: "^?",
		128: "M-^@", 137: "M-^I", 138: "M-^J", 159: "M-^_",
		160: "M- ", 161: "M-!", 173: "M--", 192: "M-@", 222: "M-^", 254: "M-~",
	} {
		isShow(t, c, want)
	}
}

// SC3: every number from 0 to 255 by the words, and each is told otherwise than the others.
func TestShowOfEachByte(t *testing.T) {
	seen := map[string]int{}
	for c := range 256 {
		isShow(t, c, showByWords(c))
		if other, twice := seen[Show(c)]; twice {
			t.Errorf("%d and %d are both %q", other, c, Show(c))
		}
		seen[Show(c)] = c
	}
}

// SC3: of a number below 0 or beyond 255 the lowest eight bits count.
func TestShowOfNumbers(t *testing.T) {
	for c, want := range map[int]string{
		-1: "M-^?", -2: "M-~", -127: "M-^A", -128: "M-^@", -129: "^?", -246: "^J", -255: "^A", -256: "^@", -257: "M-^?",
		256: "^@", 257: "^A", 266: "^J", 321: "A", 383: "^?", 384: "M-^@", 511: "M-^?", 512: "^@",
		math.MaxInt32: "M-^?", math.MinInt32: "^@", math.MaxUint32: "M-^?",
		math.MaxInt: "M-^?", math.MaxInt - 1: "M-~", math.MinInt: "^@", math.MinInt + 1: "^A", math.MinInt + 255: "M-^?",
	} {
		isShow(t, c, want)
	}
	for c := range 256 {
		for _, far := range []int{-1 << 40, -256, 256, 1 << 16, 1 << 62} {
			isShow(t, c+far, showByWords(c))
			isShow(t, c+far, showByWords(c+far))
		}
	}
}
