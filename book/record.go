package book

import (
	"arbour/api"
	"arbour/merkle"
	"arbour/node"
	"arbour/wire"
	"strings"
)

// What records begin with.
const (
	nodeMark  = "N"
	fileMark  = "F"
	shareMark = "S"
)

// learn takes in what a record tells. It was kept: neither how many nodes there are nor what is wanted matters any more.
func (b *Book) learn(record string) api.Errno {
	if s, is := strings.CutPrefix(record, nodeMark); is {
		return b.learnNode(s)
	}
	if s, is := strings.CutPrefix(record, fileMark); is {
		_, e := b.add(s)
		return e
	}
	if s, is := strings.CutPrefix(record, shareMark); is {
		return b.learnShare(s)
	}
	return api.ErrForm
}

// learnNode takes in a node of a record.
func (b *Book) learnNode(s string) api.Errno {
	taken, e := b.dag.Add(s)
	b.grow(taken)
	return e
}

// learnShare takes in a share of a record.
func (b *Book) learnShare(s string) api.Errno {
	r := wire.NewReader(s)
	x := merkle.Take(r)
	if e := r.End(); e != api.OK {
		return e
	}
	if _, e := b.hold(x); e != api.OK {
		return e
	}
	b.lay(x)
	return api.OK
}

// nodeRecords is the records of nodes that are there, by their digests.
func (b *Book) nodeRecords(digests []string) []string {
	var l []string
	for _, digest := range digests {
		n, _ := b.dag.Get(digest)
		// What was taken may be: no error can be.
		s, _ := node.Encode(n)
		l = append(l, nodeMark+s)
	}
	return l
}

// shareRecord is the record of a share.
func shareRecord(x api.Share) string {
	w := wire.NewWriter()
	w.Bytes(shareMark)
	merkle.Put(w, x)
	return w.All()
}
