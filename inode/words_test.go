package inode

import (
	"maps"
	"selvage/api"
	"selvage/path"
	"slices"
	"strings"
)

// flat is a file system by the chapter's words: what stands at each path, the root too, and the room.
type flat struct {
	at           map[string]api.Entry
	bytes, nodes int
}

// newFlat is an empty one.
func newFlat(bytes, nodes int) *flat {
	return &flat{map[string]api.Entry{"": {Kind: api.KindDir}}, bytes, nodes}
}

// Clone is one like it.
func (f *flat) Clone() *flat {
	return &flat{maps.Clone(f.at), f.bytes, f.nodes}
}

// kind is what stands at a path.
func (f *flat) kind(p string) int {
	return f.at[p].Kind
}

// below are the paths at and below p.
func (f *flat) below(p string) []string {
	var l []string
	for q := range f.at {
		if p == "" || q == p || strings.HasPrefix(q, p+"/") {
			l = append(l, q)
		}
	}
	return l
}

// way is the error of the way to a path.
func (f *flat) way(p string) error {
	for i := range len(p) {
		if p[i] != '/' {
			continue
		}
		switch f.kind(p[:i]) {
		case api.KindNone:
			return api.ErrNone
		case api.KindFile:
			return api.ErrFile
		case api.KindLink:
			return api.ErrLink
		}
	}
	return nil
}

// parts is the error of path.Parts.
func parts(p string) error {
	_, err := path.Parts(p)
	return err
}

// first is the first of these errors.
func first(errs ...error) error {
	for _, err := range errs {
		if err != nil {
			return err
		}
	}
	return nil
}

// when is an error, where something holds.
func when(holds bool, err api.Errno) error {
	if holds {
		return err
	}
	return nil
}

// called is what every call with a path answers first.
func (f *flat) called(p string) error {
	if err := parts(p); err != nil {
		return err
	}
	return f.way(p)
}

// noNode and noBytes are the errors where there is no room for a node more, for so many bytes more.
func (f *flat) noNode() error {
	_, nodes := f.Used()
	return when(nodes+1 > f.nodes, api.ErrQuota)
}

func (f *flat) noBytes(n int) error {
	bytes, _ := f.Used()
	return when(bytes+n > f.bytes, api.ErrQuota)
}

// done puts something at a path, if there is no error.
func (f *flat) done(err error, p string, kind int, text string) error {
	if err == nil {
		f.at[p] = api.Entry{Path: p, Kind: kind, Text: text}
	}
	return err
}

// Make by I2.
func (f *flat) Make(p string) error {
	return f.done(first(f.called(p), when(f.kind(p) != api.KindNone, api.ErrExist), f.noNode()), p, api.KindDir, "")
}

// Create by I3.
func (f *flat) Create(p string) error {
	err := first(f.called(p), when(f.kind(p) == api.KindDir, api.ErrDir), when(f.kind(p) == api.KindLink, api.ErrLink))
	if f.kind(p) == api.KindNone {
		err = first(err, f.noNode())
	}
	return f.done(err, p, api.KindFile, "")
}

// file is what is wrong where a file is asked for.
func (f *flat) file(p string) error {
	return first(f.called(p), when(f.kind(p) == api.KindNone, api.ErrNone), when(f.kind(p) == api.KindDir, api.ErrDir), when(f.kind(p) == api.KindLink, api.ErrLink))
}

// Append by I4.
func (f *flat) Append(p, text string) error {
	has := f.at[p].Text
	return f.done(first(f.file(p), when(len(has)+len(text) > 1<<22, api.ErrLong), f.noBytes(len(text))), p, api.KindFile, has+text)
}

// Link by I5.
func (f *flat) Link(target, p string) error {
	bad := target == "" || len(target) > 4096 || strings.IndexByte(target, 0) >= 0
	err := first(when(bad, api.ErrName), f.called(p), when(f.kind(p) != api.KindNone, api.ErrExist), f.noNode(), f.noBytes(len(target)))
	return f.done(err, p, api.KindLink, target)
}

// Rename by I6.
func (f *flat) Rename(from, to string) error {
	isDir := f.kind(from) == api.KindDir
	err := first(parts(from), parts(to), when(from == "", api.ErrArg), when(to == "", api.ErrExist),
		f.way(from), when(f.kind(from) == api.KindNone, api.ErrNone), when(isDir && strings.HasPrefix(to, from+"/"), api.ErrInside), f.way(to))
	if err != nil || from == to {
		return err
	}
	if f.kind(to) == api.KindDir {
		err = first(when(!isDir, api.ErrDir), when(len(f.below(to)) > 1, api.ErrFull))
	} else if f.kind(to) != api.KindNone {
		err = when(isDir, api.ErrFile)
	}
	if err != nil {
		return err
	}
	moved := map[string]api.Entry{}
	for _, p := range f.below(from) {
		e := f.at[p]
		e.Path = to + p[len(from):]
		if parts(e.Path) != nil {
			return api.ErrLong
		}
		moved[e.Path] = e
	}
	for _, p := range f.below(from) {
		delete(f.at, p)
	}
	maps.Copy(f.at, moved)
	return nil
}

// Remove by I7.
func (f *flat) Remove(p string) error {
	err := first(f.called(p), when(p == "", api.ErrArg), when(f.kind(p) == api.KindNone, api.ErrNone), when(len(f.below(p)) > 1, api.ErrFull))
	if err == nil {
		delete(f.at, p)
	}
	return err
}

// Look by I8.
func (f *flat) Look(p string) (api.Entry, error) {
	if err := first(f.called(p), when(f.kind(p) == api.KindNone, api.ErrNone)); err != nil {
		return api.Entry{}, err
	}
	return f.at[p], nil
}

// Read by I8.
func (f *flat) Read(p string) (string, error) {
	if err := f.file(p); err != nil {
		return "", err
	}
	return f.at[p].Text, nil
}

// List by I8.
func (f *flat) List(p string) ([]string, error) {
	kind := f.kind(p)
	err := first(f.called(p), when(kind == api.KindNone, api.ErrNone), when(kind == api.KindFile, api.ErrFile), when(kind == api.KindLink, api.ErrLink))
	if err != nil {
		return nil, err
	}
	var l []string
	for _, q := range f.below(p) {
		if q != p && path.Dir(q) == p {
			l = append(l, path.Base(q))
		}
	}
	slices.Sort(l)
	return l, nil
}

// Tree by I8: names are held against each other one by one, so that what is in a directory stands right behind it.
func (f *flat) Tree(p string) ([]api.Entry, error) {
	if _, err := f.Look(p); err != nil {
		return nil, err
	}
	l := f.below(p)
	slices.SortFunc(l, func(a, b string) int {
		if a == "" || b == "" {
			return len(a) - len(b)
		}
		return slices.Compare(strings.Split(a, "/"), strings.Split(b, "/"))
	})
	var all []api.Entry
	for _, q := range l {
		all = append(all, f.at[q])
	}
	return all, nil
}

// Used by I9.
func (f *flat) Used() (int, int) {
	bytes := 0
	for _, e := range f.at {
		bytes += len(e.Text)
	}
	return bytes, len(f.at) - 1
}
