package merkle

import (
	"arbour/api"
	"arbour/chunk"
	"errors"
)

// Show is the share of a file's chunk.
func Show(s string, at int) (api.Share, api.Errno) {
	m, e := Of(s)
	if e != api.OK {
		return api.Share{}, e
	}
	if at < 0 || at >= len(m.Chunks) {
		return api.Share{}, api.ErrNone
	}
	return api.Share{Digest: File(m), Size: m.Size, Many: len(m.Chunks), At: at, Chunk: chunkAt(s, at), Path: beside(m.Chunks, at)}, api.OK
}

// chunkAt is the chunk at a place that there is.
func chunkAt(s string, at int) string {
	for c := range chunk.All(s) {
		if at == 0 {
			return c
		}
		at--
	}
	return ""
}

// beside is the digests beside the way up from a place, the lowest first.
func beside(l []string, at int) []string {
	if len(l) < 2 {
		return nil
	}
	k := first(len(l))
	if at < k {
		return append(beside(l[:k], at), Root(l[k:]))
	}
	return append(beside(l[k:], at-k), Root(l[:k]))
}

// Verify tells whether a share shows its chunk.
func Verify(x api.Share) api.Errno {
	err := why(x)
	switch {
	case err == nil:
		return api.OK
	case errors.Is(err, api.ErrArg):
		return api.ErrArg
	}
	return api.ErrProof
}

// why is why a share shows nothing, within the place that it tells; nil, if it shows its chunk.
func why(x api.Share) error {
	// The proof is not looked at where the share may not be: the way up is that of its place and its number of chunks.
	err := claimed(x)
	if err == nil {
		err = proved(x)
	}
	if err == nil {
		return nil
	}
	return &unshown{at: x.At, why: err}
}

// claimed is what a share says that may not be.
func claimed(x api.Share) error {
	switch {
	case x.Many < 1 || x.Many > mostChunks:
		return &claim{"the number of chunks"}
	case x.At < 0 || x.At >= x.Many:
		return &claim{"the place"}
	case !sized(x.Size, x.Many):
		return &claim{"the size"}
	case len(x.Chunk) < 1 || len(x.Chunk) > api.MaxChunk:
		return &claim{"the chunk"}
	}
	return nil
}

// proved is what is wrong with a share's digests.
func proved(x api.Share) error {
	if steps := way(x.At, x.Many); len(x.Path) != steps {
		return &length{has: len(x.Path), wants: steps}
	}
	for level, h := range x.Path {
		if len(h) != api.HashBytes {
			return &stump{level: level}
		}
	}
	if fileOf(x.Size, x.Many, climb(Digest(x.Chunk), x.At, x.Many, x.Path)) != x.Digest {
		return &unlike{}
	}
	return nil
}

// way is how many steps it is up from a place: the last digests may be nearer to the root than others.
func way(at, many int) int {
	if many == 1 {
		return 0
	}
	k := first(many)
	if at < k {
		return 1 + way(at, k)
	}
	return 1 + way(at-k, many-k)
}

// climb is the root of many digests, of which h is the one at a place, by those beside its way up.
func climb(h string, at, many int, path []string) string {
	if many == 1 {
		return h
	}
	k, below, top := first(many), path[:len(path)-1], path[len(path)-1]
	if at < k {
		return join(climb(h, at, k, below), top)
	}
	return join(top, climb(h, at-k, many-k, below))
}
