package book

import (
	"arbour/api"
	"arbour/merkle"
	"slices"
	"strings"
)

// Share takes a chunk of a file that some thing has: whether it told something.
func (b *Book) Share(x api.Share) (bool, api.Errno) {
	if b.Dead() {
		return false, api.ErrDead
	}
	if !isWanted(b.wanted(), x.Digest) {
		return false, api.ErrNone
	}
	news, e := b.hold(x)
	if e != api.OK || !news {
		return false, e
	}
	if e := b.keep(shareRecord(x)); e != api.OK {
		return false, e
	}
	b.lay(x)
	return true, api.OK
}

// hold takes the chunk of a share in: whether it was not there, or its place was not known.
func (b *Book) hold(x api.Share) (bool, api.Errno) {
	if e := merkle.Verify(x); e != api.OK {
		return false, e
	}
	_, isNew, e := b.store.Put(x.Chunk)
	if e != api.OK {
		return false, e
	}
	l := b.known(x.Digest).Chunks
	return isNew || len(l) == 0 || l[x.At] == "", api.OK
}

// known is a file's manifest, as far as it is known.
func (b *Book) known(file string) api.Manifest {
	if m, all := b.store.Manifest(file); all {
		return m
	}
	return b.parts[file]
}

// lay lets the place of a share's chunk be known. With the last one of a file its manifest is.
func (b *Book) lay(x api.Share) {
	m := b.known(x.Digest)
	if len(m.Chunks) == 0 {
		m = api.Manifest{Size: x.Size, Chunks: make([]string, x.Many)}
		// The text of which the digest is a part is not to stay with it.
		b.parts[strings.Clone(x.Digest)] = m
	}
	m.Chunks[x.At] = merkle.Digest(x.Chunk)
	if slices.Contains(m.Chunks, "") {
		return
	}
	b.store.Know(m)
	delete(b.parts, x.Digest)
}

// Next is the first place of a file whose chunk is not there.
func (b *Book) Next(digest string) int {
	if b == nil {
		return 0
	}
	for at, h := range b.known(digest).Chunks {
		if _, there := b.store.Get(h); !there {
			return at
		}
	}
	return 0
}

// Shares is shares of a file from a place on, at most so many.
func (b *Book) Shares(digest string, from, most int) []api.Share {
	// Where its bytes are not there it is as the file of none, which has no shares.
	s, _ := b.Bytes(digest)
	var l []api.Share
	for at := max(from, 0); len(l) < most; at++ {
		x, e := merkle.Show(s, at)
		if e != api.OK {
			break
		}
		l = append(l, x)
	}
	return l
}
