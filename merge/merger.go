package merge

import (
	"selvage/api"
	"selvage/edits"
	"slices"
	"strings"
)

// Formats of what is told of a clash.
const (
	formatTwo   = 1 // mine and yours between marks
	formatThree = 2 // the base too
	formatUnion = 3 // mine and then yours, without marks
	formatMine  = 4
	formatYours = 5
)

const (
	labelCount = 3 // one for each text

	mineMark  = "<<<<<<< "
	baseMark  = "||||||| "
	between   = "======="
	yoursMark = ">>>>>>> "
)

// merger writes the text that is made of three.
type merger struct {
	page
	texts
	labels []string
	format int
	chunks []Chunk
	ends   []int // by chunk: how many lines the text has, up to its end
}

// merged is the text of three, by the scripts from the base to either; the error is Merge's.
func merged(s, t []api.Change, all texts, labels []string, format int) (*merger, error) {
	if format < formatTwo || format > formatYours {
		return nil, api.ErrArg
	}
	if len(labels) != labelCount {
		return nil, api.ErrWords
	}
	for _, label := range labels {
		if len(label) > api.MaxPath || strings.Contains(label, "\n") {
			return nil, api.ErrName
		}
	}
	chunks, err := Chunks(s, t, all.base, all.mine, all.yours)
	if err != nil {
		return nil, err
	}
	m := &merger{texts: all, labels: labels, format: format, chunks: chunks}
	for i, c := range chunks {
		m.chunk(c, i == len(chunks)-1)
		m.ends = append(m.ends, m.count)
	}
	if m.isOver {
		return nil, api.ErrLong
	}
	return m, nil
}

// chunk writes a chunk.
func (m *merger) chunk(c Chunk, isLast bool) {
	part := m.within(c)
	told := part.mine
	if c.Kind == Yours {
		told = part.yours
	}
	switch {
	case c.Kind == Clash:
		m.clash(part)
	case isLast:
		m.part(told)
	default:
		m.whole(told)
	}
}

// clash writes the parts of a clash.
func (m *merger) clash(part texts) {
	switch m.format {
	case formatUnion:
		m.whole(part.mine)
		m.part(part.yours)
	case formatMine:
		m.part(part.mine)
	case formatYours:
		m.part(part.yours)
	default:
		m.conflict(part)
	}
}

// conflict writes the parts of a clash between marks.
func (m *merger) conflict(part texts) {
	m.mark(mineMark + m.labels[0])
	m.whole(part.mine)
	if m.format == formatThree {
		m.mark(baseMark + m.labels[1])
		m.whole(part.base)
	}
	m.mark(between)
	m.whole(part.yours)
	m.mark(yoursMark + m.labels[2])
}

// conflicts is how many clashes stand between marks.
func (m *merger) conflicts() int {
	n := 0
	for _, c := range m.chunks {
		if c.Kind == Clash && m.format <= formatThree {
			n++
		}
	}
	return n
}

// script is the normal edit script from mine to the text's lines, by the chunks that are told otherwise than mine has them.
func (m *merger) script(fresh []string) ([]api.Change, error) {
	var changes []api.Change
	from := 0
	for i, c := range m.chunks {
		to := m.ends[i]
		if !slices.Equal(m.within(c).mine, fresh[from:to]) {
			changes = append(changes, api.Change{A: c.Mine, N: c.MineN, B: from, M: to - from})
		}
		from = to
	}
	return edits.Normal(changes, len(m.mine), len(fresh))
}
