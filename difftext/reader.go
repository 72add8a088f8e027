package difftext

import (
	"selvage/api"
	"selvage/lines"
	"selvage/quote"
	"strconv"
	"strings"
)

// CutMark begins the line behind a row whose line has no end.
const CutMark = `\`

const (
	cutLine   = CutMark + " No newline at end of file"
	stampMark = "\t"
)

// Reader goes through a text line by line, and no further than the diff goes: what is left may be long, and have many diffs more.
type Reader struct {
	Line int    // the number of the next line
	rest string // what is not read yet
}

// NewReader goes through a text from its first line on.
func NewReader(text string) *Reader {
	return &Reader{Line: 1, rest: text}
}

// Left is all that is not read yet.
func (r *Reader) Left() string {
	return r.rest
}

// Next is the next line, always with its end; the empty text, if there is none.
func (r *Reader) Next() string {
	at := strings.IndexByte(r.rest, '\n')
	if at < 0 && r.rest != "" {
		return r.rest + "\n"
	}
	return r.rest[:at+1]
}

// Pass goes on behind the next line, which is handed in.
func (r *Reader) Pass(line string) {
	// The text's last line may be without the end that Next gave it.
	r.rest = r.rest[min(len(line), len(r.rest)):]
	r.Line++
}

// Row passes the next line, which is handed in, and the one behind it that takes its end, if there is one; it is the line behind a mark of so many bytes.
func (r *Reader) Row(line string, mark int) string {
	r.Pass(line)
	text := line[mark:]
	behind := r.Next()
	if strings.HasPrefix(behind, CutMark) {
		r.Pass(behind)
		return lines.Bare(text)
	}
	return text
}

// header reads a line of the header; false, if the next line is none.
func (r *Reader) header(mark string) (api.Name, bool) {
	line := r.Next()
	text, ok := strings.CutPrefix(line, mark)
	if !ok {
		return api.Name{}, false
	}
	path, left, err := quote.Unquote(lines.Bare(text))
	stamp, stamped := strings.CutPrefix(left, stampMark)
	if err != nil || left != "" && !stamped {
		return api.Name{}, false
	}
	r.Pass(line)
	return api.Name{Path: path, Stamp: stamp}, true
}

// Number reads digits, with noughts ahead or without; false, if a text is no such number, or it is too great.
func Number(digits string) (int, bool) {
	n, err := strconv.ParseUint(digits, 10, 64)
	if err != nil || n > api.MaxNumber {
		return 0, false
	}
	return int(n), true
}

// Range reads one number, or two with a comma between, the second one not below the first, as the first line and the last one; false, if a text is no range.
func Range(text string) (int, int, bool) {
	begin, end, two := strings.Cut(text, ",")
	if !two {
		end = begin
	}
	first, isFirst := Number(begin)
	last, isLast := Number(end)
	return first, last, isFirst && isLast && first <= last
}

// Head reads what stands behind a hunk's first line, without its end: nothing, or a blank and the heading; false, if it is neither.
func Head(behind string) (string, bool) {
	head, headed := strings.CutPrefix(behind, " ")
	return head, headed || behind == ""
}
