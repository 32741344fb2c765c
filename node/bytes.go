package node

import (
	"arbour/api"
	"arbour/op"
	"arbour/sha"
	"arbour/wire"
)

const (
	authorBytes = 1
	manyBytes   = 1 // of how many parents there are

	purpose = 'D' // of nodes' digests
)

// signed is a node's bytes without its tag, whether it may be or not: what its tag is of.
func signed(n api.Node) string {
	w := wire.NewWriter()
	w.Number(uint64(n.Author), authorBytes)
	w.Number(uint64(len(n.Parents)), manyBytes)
	for _, h := range n.Parents {
		w.Hash(h)
	}
	op.Put(w, n.Op)
	return w.All()
}

// Hash is a node's digest, without its tag.
func Hash(n api.Node) string { return sha.Tagged(purpose, signed(n)) }

// Encode is a node's bytes.
func Encode(n api.Node) (string, api.Errno) {
	if e := Check(n); e != api.OK {
		return "", e
	}
	return signed(n) + n.Tag, api.OK
}

// Decode is the node of bytes.
func Decode(s string) (api.Node, api.Errno) {
	r := wire.NewReader(s)
	n := api.Node{Author: int(r.Number(authorBytes)), Parents: takeParents(r), Op: op.Take(r), Tag: r.Hash()}
	if e := r.End(); e != api.OK {
		return api.Node{}, e
	}
	if e := Check(n); e != api.OK {
		return api.Node{}, e
	}
	return n, api.OK
}

// takeParents takes how many parents there are, and these; more than may be are not even looked at.
func takeParents(r *wire.Reader) []string {
	many := int(r.Number(manyBytes))
	if many > api.MaxParents {
		r.Fail(api.ErrMany)
		return nil
	}
	var l []string
	for range many {
		l = append(l, r.Hash())
	}
	return l
}
