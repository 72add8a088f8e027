package inode

import (
	"maps"
	"selvage/api"
	"slices"
	"strings"
)

// node is a directory, a file or a link.
type node struct {
	kind  int
	text  string           // a file's bytes, a link's target
	built *strings.Builder // a file's: what text was written by; nil, if nothing has been put behind it yet
	names map[string]*node // a directory's: what is in it
}

// newDir is an empty directory.
func newDir() *node {
	return &node{kind: api.KindDir, names: map[string]*node{}}
}

// newLink is a link with this target.
func newLink(target string) *node {
	return &node{kind: api.KindLink, text: strings.Clone(target)}
}

// isTarget tells whether a link may have this target.
func isTarget(s string) bool {
	return s != "" && len(s) <= api.MaxPath && !strings.Contains(s, "\x00")
}

// enter puts something into a directory, in the place of what was called so there.
func (n *node) enter(name string, inner *node) {
	// A name is a piece of a path that was handed in, which would be kept with it.
	n.names[strings.Clone(name)] = inner
}

// grow puts more behind a file's bytes.
func (n *node) grow(more string) {
	if n.built == nil {
		n.built = &strings.Builder{}
		n.built.WriteString(n.text)
	}
	// What stands there already is not copied each time: many short pieces cost no more than a long one.
	n.built.WriteString(more)
	n.text = n.built.String()
}

// empty takes a file's bytes away.
func (n *node) empty() {
	n.text, n.built = "", nil
}

// rising are the names in a directory, in order.
func (n *node) rising() []string {
	return slices.Sorted(maps.Keys(n.names))
}

// entry tells what this is, where it stands at this path.
func (n *node) entry(p string) api.Entry {
	return api.Entry{Path: p, Kind: n.kind, Text: n.text}
}

// tree puts this and all below it, from this path on, behind the entries of l.
func (n *node) tree(l []api.Entry, p string) []api.Entry {
	l = append(l, n.entry(p))
	for _, name := range n.rising() {
		l = n.names[name].tree(l, below(p, name))
	}
	return l
}

// below is the path of what is called so in a directory.
func below(dir, name string) string {
	if dir == "" {
		return name
	}
	return dir + "/" + name
}

// clone is the same, with all below it. Bytes are shared, since what is written behind them here is not read there.
func (n *node) clone() *node {
	if n.kind != api.KindDir {
		return &node{kind: n.kind, text: n.text}
	}
	dir := newDir()
	for name, inner := range n.names {
		dir.names[name] = inner.clone()
	}
	return dir
}

// fits tells whether the paths of this and of all below it may be, where its own has so many bytes and names.
func (n *node) fits(bytes, depth int) bool {
	if bytes > api.MaxPath || depth > api.MaxDepth {
		return false
	}
	for name, inner := range n.names {
		if !inner.fits(bytes+len("/")+len(name), depth+1) {
			return false
		}
	}
	return true
}
