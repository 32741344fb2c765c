package merkle_test

import (
	"arbour/api"
	"arbour/chunk"
	"crypto/sha512"
	"fmt"
	"slices"
	"strings"
	"testing"
)

// The limits of the chapter, written out.
const (
	fileMost  = 8192
	chunkMost = 512
	manyMost  = 256
	digested  = 32
)

// drawer draws numbers below n, the same ones at each run.
func drawer(seed uint64) func(n int) int {
	return func(n int) int {
		seed = seed*6364136223846793005 + 1442695040888963407
		return int(seed >> 33 % uint64(n))
	}
}

// drawn is n bytes of so many kinds.
func drawn(draw func(int) int, n, kinds int) string {
	s := make([]byte, n)
	for i := range s {
		s[i] = byte(draw(kinds))
	}
	return string(s)
}

// hashes is n digests, no two alike.
func hashes(n int) []string {
	l := make([]string, n)
	for i := range l {
		l[i] = fmt.Sprintf("digest %025d", i)
	}
	return l
}

// raw is a number of 4 bytes as sha lays it.
func raw(n int) string { return string([]byte{byte(n >> 24), byte(n >> 16), byte(n >> 8), byte(n)}) }

// taggedOf is the digest of parts for a purpose by the words of layer 1.
func taggedOf(purpose string, parts ...string) string {
	s := purpose + raw(len(parts))
	for _, p := range parts {
		s += raw(len(p))
	}
	h := sha512.Sum512([]byte(s + strings.Join(parts, "")))
	return string(h[:digested])
}

// digestOf is a chunk's digest by the chapter's words.
func digestOf(c string) string { return taggedOf("K", c) }

// splitOf is the greatest power of two below n.
func splitOf(n int) int {
	k := 1
	for 2*k < n {
		k = 2 * k
	}
	return k
}

// rootOf is the root by the chapter's words.
func rootOf(l []string) string {
	if len(l) == 0 {
		return taggedOf("E")
	}
	if len(l) == 1 {
		return l[0]
	}
	k := splitOf(len(l))
	return taggedOf("J", rootOf(l[:k]), rootOf(l[k:]))
}

// fileDigestOf is a file's digest by the chapter's words.
func fileDigestOf(size int, l []string) string {
	return taggedOf("F", fmt.Sprintf("%08x", size), fmt.Sprintf("%08x", len(l)), rootOf(l))
}

// pathOf is the digests beside the way up, the lowest first: it goes down from the root, so that they come the other way round.
func pathOf(l []string, at int) []string {
	var path []string
	for len(l) > 1 {
		k := splitOf(len(l))
		if at < k {
			path, l = append(path, rootOf(l[k:])), l[:k]
		} else {
			path, l, at = append(path, rootOf(l[:k])), l[k:], at-k
		}
	}
	slices.Reverse(path)
	return path
}

// shareOf is a share of a file of so many bytes and of those digests, of which one is that of the chunk.
func shareOf(size int, l []string, at int, c string) api.Share {
	l = slices.Clone(l)
	l[at] = digestOf(c)
	return api.Share{Digest: fileDigestOf(size, l), Size: size, Many: len(l), At: at, Chunk: c, Path: pathOf(l, at)}
}

// manifestOf is a file's manifest by the chapter's words.
func manifestOf(s string) api.Manifest {
	m := api.Manifest{Size: len(s)}
	for _, c := range chunk.List(s) {
		m.Chunks = append(m.Chunks, digestOf(c))
	}
	return m
}

func sameManifest(a, b api.Manifest) bool {
	return a.Size == b.Size && slices.Equal(a.Chunks, b.Chunks)
}

func sameShare(a, b api.Share) bool {
	return a.Digest == b.Digest && a.Size == b.Size && a.Many == b.Many && a.At == b.At && a.Chunk == b.Chunk && slices.Equal(a.Path, b.Path)
}

// noManifest is whether nothing is told.
func noManifest(m api.Manifest) bool { return m.Size == 0 && len(m.Chunks) == 0 }

// noShare is whether nothing is told.
func noShare(x api.Share) bool { return sameShare(x, api.Share{}) }

// copyOf is a share with a path of its own.
func copyOf(x api.Share) api.Share {
	x.Path = slices.Clone(x.Path)
	return x
}

// oftenCut is a text of n bytes that has as many chunks as it may: each ends at the MinChunk-th byte.
func oftenCut(t *testing.T, n int) string {
	t.Helper()
	draw := drawer(77)
	for range 100000 {
		if c := drawn(draw, api.MinChunk+1, 256); chunk.Cut(c) == api.MinChunk {
			return strings.Repeat(c[:api.MinChunk], n/api.MinChunk+1)[:n]
		}
	}
	t.Fatal("no such chunk was found")
	return ""
}

// seldomCut is a text of n bytes that has as few chunks as it may: each ends behind MaxChunk bytes.
func seldomCut(t *testing.T, n int) string {
	t.Helper()
	for b := range 256 {
		if s := strings.Repeat(string([]byte{byte(b)}), n); chunk.Cut(s) == min(n, api.MaxChunk) {
			return s
		}
	}
	t.Fatal("no such text was found")
	return ""
}

// texts is files of many kinds: of nothing, of one chunk, of two, three and many, of the most bytes.
func texts(t *testing.T) []string {
	t.Helper()
	draw := drawer(5)
	l := []string{"", "a", "\x00", strings.Repeat("z", 31), strings.Repeat("z", 32), strings.Repeat("z", 33)}
	for _, n := range []int{511, 512, 513, 1024, 1025, 1536, 1537, 2048, 2560, 3584, 4096, 4097, 8191, 8192} {
		l = append(l, seldomCut(t, n))
	}
	for _, n := range []int{64, 65, 96, 97, 128, 224, 256, 257, 1024, 1025, 8159, 8160, 8161, 8191, 8192} {
		l = append(l, oftenCut(t, n))
	}
	for range 25 {
		l = append(l, drawn(draw, draw(fileMost+1), 256), drawn(draw, draw(600), 3))
	}
	return l
}

// The limits that the chapter's words hang on, and the texts that are to reach them.
func TestLimits(t *testing.T) {
	if api.MaxFile != fileMost || api.MaxChunk != chunkMost || api.MaxFile/api.MinChunk != manyMost || api.HashBytes != digested || api.ErrProof != 90 {
		t.Error("package api has other limits")
	}
	if n := len(chunk.List(oftenCut(t, fileMost))); n != manyMost {
		t.Errorf("%d chunks, not as many as there may be", n)
	}
	if n := len(chunk.List(seldomCut(t, fileMost))); n != fileMost/chunkMost {
		t.Errorf("%d chunks, not as few as there may be", n)
	}
	seen := make(map[int]int)
	for _, s := range texts(t) {
		seen[len(chunk.List(s))]++
	}
	for _, n := range []int{0, 1, 2, 3, 4, 5, 7, 8, 16, 32, 255, 256} {
		if seen[n] == 0 {
			t.Errorf("no text has %d chunks", n)
		}
	}
}
