package inode

import "selvage/api"

// amount is how many bytes and nodes there are, or may be.
type amount struct{ bytes, nodes int }

// hasRoom tells whether there may be so much more.
func (t *Table) hasRoom(more amount) bool {
	return more.bytes <= t.room.bytes-t.used.bytes && more.nodes <= t.room.nodes-t.used.nodes
}

// put puts something new where nothing stands, if there is room for it.
func (t *Table) put(at place, n *node) error {
	if !t.hasRoom(amount{len(n.text), 1}) {
		return api.ErrQuota
	}
	t.used.bytes += len(n.text)
	t.used.nodes++
	at.dir.enter(at.name, n)
	return nil
}

// free makes room where something that had nothing below it is gone.
func (t *Table) free(n *node) {
	t.used.bytes -= len(n.text)
	t.used.nodes--
}
