package inode

import (
	"selvage/api"
	"selvage/path"
)

// Rename renames.
func (t *Table) Rename(from, to string) error {
	old, err := path.Parts(from)
	if err != nil {
		return err
	}
	fresh, err := path.Parts(to)
	if err != nil {
		return err
	}
	if from == "" {
		return api.ErrArg
	}
	if to == "" {
		return api.ErrExist
	}
	source, err := t.follow(old)
	if err != nil {
		return err
	}
	if err := mayGo(source.node, from, to); err != nil {
		return err
	}
	target, err := t.follow(fresh)
	if err != nil || from == to {
		return err
	}
	if err := mayTakePlace(source.node, target.node); err != nil {
		return err
	}
	if !source.node.fits(len(to), len(fresh)) {
		return api.ErrLong
	}
	t.move(source, target)
	return nil
}

// mayGo tells what is wrong with bringing what stands at a path to another one.
func mayGo(n *node, from, to string) error {
	if n == nil {
		return api.ErrNone
	}
	if n.kind == api.KindDir && from != to && path.Below(from, to) {
		return api.ErrInside
	}
	return nil
}

// mayTakePlace tells what is wrong with putting n in the place of what stands there, if anything does.
func mayTakePlace(n, there *node) error {
	if there == nil {
		return nil
	}
	isDir := n.kind == api.KindDir
	switch {
	case there.kind != api.KindDir && isDir:
		return api.ErrFile
	case there.kind == api.KindDir && !isDir:
		return api.ErrDir
	case len(there.names) > 0:
		return api.ErrFull
	}
	return nil
}

// move puts what stands at one place into another one; what stood there is gone.
func (t *Table) move(source, target place) {
	if target.node != nil {
		t.free(target.node)
	}
	delete(source.dir.names, source.name)
	target.dir.enter(target.name, source.node)
}
