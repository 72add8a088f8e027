package inode

import (
	"selvage/api"
	"selvage/path"
)

// place is where a path leads to: a name in a directory.
type place struct {
	dir  *node // the root is in none
	name string
	node *node // what is called so there; nil: nothing
}

// find is the place of a path; else the error of the path, or of the way to it.
func (t *Table) find(p string) (place, error) {
	parts, err := path.Parts(p)
	if err != nil {
		return place{}, err
	}
	return t.follow(parts)
}

// follow goes from the root on by these names: all but the last must be directories.
func (t *Table) follow(parts []string) (place, error) {
	at := place{node: t.root}
	for _, name := range parts {
		if err := mustBeDir(at.node); err != nil {
			return place{}, err
		}
		at = place{at.node, name, at.node.names[name]}
	}
	return at, nil
}

// stands is what stands at a path.
func (t *Table) stands(p string) (*node, error) {
	at, err := t.find(p)
	if err != nil {
		return nil, err
	}
	if at.node == nil {
		return nil, api.ErrNone
	}
	return at.node, nil
}

// mustBeDir tells what is wrong where a directory is needed.
func mustBeDir(n *node) error {
	switch {
	case n == nil:
		return api.ErrNone
	case n.kind == api.KindFile:
		return api.ErrFile
	case n.kind == api.KindLink:
		return api.ErrLink
	}
	return nil
}

// mustBeFile tells what is wrong where a file is needed.
func mustBeFile(n *node) error {
	switch {
	case n == nil:
		return api.ErrNone
	case n.kind == api.KindDir:
		return api.ErrDir
	case n.kind == api.KindLink:
		return api.ErrLink
	}
	return nil
}
