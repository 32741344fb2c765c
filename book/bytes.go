package book

import (
	"arbour/api"
	"arbour/image"
	"arbour/merkle"
	"slices"
)

// Bytes is the bytes of a file's digest; nothing for an empty one, and for that of no bytes.
func (b *Book) Bytes(digest string) (string, bool) {
	if b == nil {
		return "", false
	}
	if digest == "" || digest == digestOf("") {
		return "", true
	}
	s, there := b.store.File(digest)
	// Chunks are somebody's word: put together they may be bytes that are cut otherwise, and have another digest.
	if !there || digestOf(s) != digest {
		return "", false
	}
	return s, true
}

// digestOf is the digest of a file's bytes.
func digestOf(s string) string {
	m, _ := merkle.Of(s)
	return merkle.File(m)
}

// Read is a file's bytes.
func (b *Book) Read(path string) (string, api.Errno) {
	if b.Dead() {
		return "", api.ErrDead
	}
	f, there := image.Find(b.Image(), path)
	if !there || f.Dir {
		return "", api.ErrNone
	}
	s, there := b.Bytes(f.Digest)
	if !there {
		return "", api.ErrBytes
	}
	return s, api.OK
}

// add takes a file's bytes in: its digest.
func (b *Book) add(s string) (string, api.Errno) {
	digest, e := b.store.Add(s)
	if e == api.OK {
		delete(b.parts, digest)
	}
	return digest, e
}

// wanted is the digests that things have, in the trash, too, rising.
func (b *Book) wanted() []string {
	var l []string
	for x := range b.Tree().All() {
		if x.Digest != "" {
			l = append(l, x.Digest)
		}
	}
	slices.Sort(l)
	return slices.Compact(l)
}

// isWanted tells whether a digest is among those that are wanted.
func isWanted(wanted []string, digest string) bool {
	_, is := slices.BinarySearch(wanted, digest)
	return is
}

// Lacks is the digests of files that things have, and whose bytes are not there, rising.
func (b *Book) Lacks() []string {
	return slices.DeleteFunc(b.wanted(), func(digest string) bool {
		_, there := b.Bytes(digest)
		return there
	})
}
