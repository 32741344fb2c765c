package op

import (
	"arbour/api"
	"arbour/sha"
	"arbour/stamp"
	"arbour/wire"
)

const (
	kindBytes  = 1
	thingBytes = 8

	purpose = 'O' // of operations' digests
)

// Put puts an operation.
func Put(w *wire.Writer, o api.Op) {
	w.Number(uint64(o.Kind), kindBytes)
	stamp.Put(w, o.At)
	w.Number(o.Thing, thingBytes)
	switch o.Kind {
	case api.OpCreate:
		w.Bool(o.Dir)
		fallthrough
	case api.OpMove:
		w.Number(o.Parent, thingBytes)
		w.Text(o.Name)
	case api.OpContent:
		w.Hash(o.Digest)
		w.Count(o.Size)
	}
}

// Take takes an operation.
func Take(r *wire.Reader) api.Op {
	o := api.Op{Kind: int(r.Number(kindBytes)), At: stamp.Take(r), Thing: r.Number(thingBytes)}
	switch o.Kind {
	case api.OpCreate:
		o.Dir = r.Bool()
		fallthrough
	case api.OpMove:
		o.Parent = r.Number(thingBytes)
		o.Name = r.Text(api.MaxName)
	case api.OpContent:
		o.Digest = r.Hash()
		o.Size = r.Count(api.MaxFile)
	}
	if e := Check(o); e != api.OK {
		// An error of the bytes left zeros behind it, which may not be, either: the reader keeps the first one.
		r.Fail(e)
	}
	if r.Err() != api.OK {
		return api.Op{}
	}
	return o
}

// Encode is an operation's bytes.
func Encode(o api.Op) (string, api.Errno) {
	if e := Check(o); e != api.OK {
		return "", e
	}
	return all(o), api.OK
}

// all is an operation's bytes, whether it may be or not.
func all(o api.Op) string {
	w := wire.NewWriter()
	Put(w, o)
	return w.All()
}

// Decode is the operation of bytes.
func Decode(s string) (api.Op, api.Errno) {
	r := wire.NewReader(s)
	o := Take(r)
	if e := r.End(); e != api.OK {
		return api.Op{}, e
	}
	return o, api.OK
}

// Hash is the digest of bytes of an operation.
func Hash(o api.Op) string { return sha.Tagged(purpose, all(o)) }
