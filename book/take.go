package book

import (
	"arbour/api"
	"arbour/node"
	"arbour/stamp"
)

// Accept takes a node of bytes, and all that waited for it: how many were taken.
func (b *Book) Accept(s string) (int, api.Errno) {
	if b.Dead() {
		return 0, api.ErrDead
	}
	if b.full() {
		return 0, api.ErrMany
	}
	return b.take(s)
}

// full tells whether it has as many nodes as it may.
func (b *Book) full() bool { return b.dag.Len() >= api.MaxNodes }

// take takes a node of bytes, keeps it with all that waited for it, and only then lets them change the tree.
func (b *Book) take(s string) (int, api.Errno) {
	taken, e := b.dag.Add(s)
	if e != api.OK {
		return 0, e
	}
	if e := b.keep(b.nodeRecords(taken)...); e != api.OK {
		return 0, e
	}
	b.grow(taken)
	return len(taken), api.OK
}

// grow does the operations of nodes that were taken.
func (b *Book) grow(digests []string) {
	for _, digest := range digests {
		n, _ := b.dag.Get(digest)
		b.tree.Add(api.Entry{Op: n.Op, Hash: digest})
		b.clock.See(n.Op.At)
	}
}

// do makes an operation of its own, at the next time, behind what it knows.
func (b *Book) do(o api.Op) api.Errno {
	if b.full() {
		return api.ErrMany
	}
	at, e := b.clock.Next()
	if e != api.OK {
		return e
	}
	o.At = at
	if o.Kind == api.OpCreate {
		o.Thing = stamp.Thing(at)
	}
	s, e := b.signed(o)
	if e != api.OK {
		return e
	}
	_, e = b.take(s)
	return e
}

// signed is the bytes of a node of its own. Not all heads may find room among the parents: the others stay heads.
func (b *Book) signed(o api.Op) (string, api.Errno) {
	heads := b.dag.Heads()
	n, e := node.Sign(&b.ring, api.Node{Author: b.me, Parents: heads[:min(len(heads), api.MaxParents)], Op: o})
	if e != api.OK {
		return "", e
	}
	return node.Encode(n)
}
