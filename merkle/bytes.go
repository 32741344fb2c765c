package merkle

import (
	"arbour/api"
	"arbour/wire"
	"math"
)

const (
	pathBytes = 1 // of how many digests a share has beside its way up

	// What a share says is held against the limits by Verify: whoever takes one takes any count.
	anyCount = math.MaxInt
)

// Encode is a manifest's bytes.
func Encode(m api.Manifest) (string, api.Errno) {
	if e := Check(m); e != api.OK {
		return "", e
	}
	w := wire.NewWriter()
	w.Count(m.Size)
	w.Count(len(m.Chunks))
	putHashes(w, m.Chunks)
	return w.All(), api.OK
}

// Decode is the manifest of bytes.
func Decode(s string) (api.Manifest, api.Errno) {
	r := wire.NewReader(s)
	m := api.Manifest{Size: r.Count(api.MaxFile)}
	m.Chunks = takeHashes(r, r.Count(mostChunks))
	if e := r.End(); e != api.OK {
		return api.Manifest{}, e
	}
	if e := Check(m); e != api.OK {
		return api.Manifest{}, e
	}
	return m, api.OK
}

// Put puts a share.
func Put(w *wire.Writer, x api.Share) {
	w.Hash(x.Digest)
	w.Count(x.Size)
	w.Count(x.Many)
	w.Count(x.At)
	w.Text(x.Chunk)
	w.Number(uint64(len(x.Path)), pathBytes)
	putHashes(w, x.Path)
}

// Take takes a share.
func Take(r *wire.Reader) api.Share {
	x := api.Share{Digest: r.Hash(), Size: r.Count(anyCount), Many: r.Count(anyCount), At: r.Count(anyCount), Chunk: r.Text(anyCount)}
	x.Path = takeHashes(r, int(r.Number(pathBytes)))
	if r.Err() != api.OK {
		return api.Share{}
	}
	return x
}

// putHashes puts digests, one behind the other.
func putHashes(w *wire.Writer, l []string) {
	for _, h := range l {
		w.Hash(h)
	}
}

// takeHashes takes so many digests; with an error it takes none behind it.
func takeHashes(r *wire.Reader, n int) []string {
	var l []string
	for range n {
		h := r.Hash()
		if r.Err() != api.OK {
			return nil
		}
		l = append(l, h)
	}
	return l
}
