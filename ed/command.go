package ed

import (
	"selvage/api"
	"selvage/lines"
	"strconv"
	"strings"
)

// The names of commands.
const (
	nameAppend = "a"
	nameInsert = "i"
	nameChange = "c"
	nameDelete = "d"
	nameStrip  = "s/.//"
	nameWrite  = "w"
	nameQuit   = "q"
)

// Addresses that are no numbers.
const (
	currentLine = "."
	lastLine    = "$"
)

// kind is what a command's name says of it.
type kind struct {
	name string
	most int  // how many addresses it takes at most
	zero bool // whether it may be done where no line is meant
	text bool // whether lines of text follow
}

var kinds = [...]kind{
	{name: nameAppend, most: 1, zero: true, text: true},
	{name: nameInsert, most: 1, zero: true, text: true},
	{name: nameChange, most: 2, text: true},
	{name: nameDelete, most: 2},
	{name: nameStrip, most: 1},
	{name: nameWrite, zero: true},
	{name: nameQuit, zero: true},
}

// command is a command of the editor: its kind, and the addresses that stand ahead of its name.
type command struct {
	kind
	addresses []string
}

// readCommand reads a line as a command; false, if it is none.
func readCommand(line string) (command, bool) {
	if !lines.Whole(line) {
		return command{}, false
	}
	// No address ends as a name does, so one name at most can be cut off.
	for _, k := range kinds {
		if ahead, ok := strings.CutSuffix(lines.Bare(line), k.name); ok {
			addresses, ok := readAddresses(ahead, k.most)
			return command{k, addresses}, ok
		}
	}
	return command{}, false
}

// readAddresses cuts a text into addresses; false, if it is no such text, or has more of them than there may be.
func readAddresses(text string, most int) ([]string, bool) {
	if text == "" {
		return nil, true
	}
	// One more than there may be is enough to know; a line may have very many.
	addresses := strings.SplitN(text, ",", most+1)
	for _, address := range addresses {
		if !isAddress(address) {
			return nil, false
		}
	}
	return addresses, len(addresses) <= most
}

// isAddress tells whether a text is an address.
func isAddress(text string) bool {
	_, ok := number(text)
	return ok || text == currentLine || text == lastLine
}

// number reads digits without needless noughts; false, if a text is no such number, or it is too great.
func number(text string) (int, bool) {
	n, err := strconv.Atoi(text)
	// A sign, or a nought too many, is not told again.
	if err != nil || n < 0 || n > api.MaxNumber || strconv.Itoa(n) != text {
		return 0, false
	}
	return n, true
}
