package merkle_test

import (
	"arbour/api"
	"arbour/chunk"
	"arbour/merkle"
	"fmt"
	"math"
	"slices"
	"strings"
	"testing"
)

// shown wants what Show answers, twice.
func shown(t *testing.T, s string, at int, want api.Share, wantError api.Errno) {
	t.Helper()
	for range 2 {
		if x, e := merkle.Show(s, at); !sameShare(x, want) || e != wantError {
			t.Fatalf("Show of %d bytes at %d: chunk %d of %d with %d digests, %d; not %d of %d with %d, %d", len(s), at, x.At, x.Many, len(x.Path), int(e), want.At, want.Many, len(want.Path), int(wantError))
		}
	}
}

// verified wants what Verify answers, twice, and that it leaves the share.
func verified(t *testing.T, what string, x api.Share, want api.Errno) {
	t.Helper()
	given := copyOf(x)
	for range 2 {
		if e := merkle.Verify(x); e != want {
			t.Errorf("%s: Verify of chunk %d of %d, size %d, %d bytes, %d digests: %d, not %d", what, x.At, x.Many, x.Size, len(x.Chunk), len(x.Path), int(e), int(want))
		}
	}
	if !sameShare(x, given) {
		t.Errorf("%s: Verify changed the share", what)
	}
}

// 9.2: the share at each place, and no other places.
func TestShow(t *testing.T) {
	for _, s := range texts(t) {
		m, l := manifestOf(s), chunk.List(s)
		step := 1 + len(l)/20
		for at := 0; at < len(l); at += step {
			shown(t, s, at, shareOf(len(s), m.Chunks, at, l[at]), api.OK)
		}
		if len(l) > 0 {
			last := len(l) - 1
			shown(t, s, last, shareOf(len(s), m.Chunks, last, l[last]), api.OK)
		}
		for _, at := range []int{-1, -2, math.MinInt, len(l), len(l) + 1, len(l) + 256, 1 << 32, math.MaxInt} {
			shown(t, s, at, api.Share{}, api.ErrNone)
		}
	}
}

// 9.2: files of one chunk, of two, and of three, with the digests beside the way written out.
func TestShowWritten(t *testing.T) {
	shown(t, "", 0, api.Share{}, api.ErrNone)
	one := fileDigestOf(3, []string{digestOf("abc")})
	shown(t, "abc", 0, api.Share{Digest: one, Size: 3, Many: 1, Chunk: "abc"}, api.OK)

	s := seldomCut(t, 3*chunkMost)
	c := s[:chunkMost]
	h := digestOf(c)
	two := taggedOf("F", "00000400", "00000002", taggedOf("J", h, h))
	three := taggedOf("F", "00000600", "00000003", taggedOf("J", taggedOf("J", h, h), h))
	for at := range 2 {
		shown(t, s[:2*chunkMost], at, api.Share{Digest: two, Size: 2 * chunkMost, Many: 2, At: at, Chunk: c, Path: []string{h}}, api.OK)
		shown(t, s, at, api.Share{Digest: three, Size: 3 * chunkMost, Many: 3, At: at, Chunk: c, Path: []string{h, h}}, api.OK)
	}
	shown(t, s, 2, api.Share{Digest: three, Size: 3 * chunkMost, Many: 3, At: 2, Chunk: c, Path: []string{taggedOf("J", h, h)}}, api.OK)
}

// 9.2: more bytes than a file may have go ahead of a place that there is not.
func TestShowMany(t *testing.T) {
	s := drawn(drawer(4), fileMost, 256)
	for _, at := range []int{-1, 0, 1, 1 << 20, math.MinInt, math.MaxInt} {
		shown(t, s+"a", at, api.Share{}, api.ErrMany)
		shown(t, s+s, at, api.Share{}, api.ErrMany)
	}
	shown(t, s, 0, shareOf(fileMost, manifestOf(s).Chunks, 0, chunk.List(s)[0]), api.OK)
}

// 9.2: what Show answers is the caller's.
func TestShowIsTheCallers(t *testing.T) {
	s := oftenCut(t, 2000)
	want := shareOf(len(s), manifestOf(s).Chunks, 5, chunk.List(s)[5])
	x, _ := merkle.Show(s, 5)
	for i := range x.Path {
		x.Path[i] = "other"
	}
	_ = append(x.Path[:1], "other")
	shown(t, s, 5, want, api.OK)
}

// 9.2 and T3: each share that is shown is verified, and tells the file's digest.
func TestVerifyShown(t *testing.T) {
	for _, s := range texts(t) {
		m := manifestOf(s)
		for at := range m.Chunks {
			x, e := merkle.Show(s, at)
			if e != api.OK || x.Digest != merkle.File(m) || digestOf(x.Chunk) != m.Chunks[at] {
				t.Fatalf("Show of %d bytes at %d: %d", len(s), at, int(e))
			}
			verified(t, "shown", x, api.OK)
		}
	}
}

// 9.2: shares of trees of every number of chunks, at each place.
func TestVerifyEachTree(t *testing.T) {
	for many := 1; many <= manyMost; many++ {
		l, step := hashes(many), 1
		if many > 40 {
			step = 1 + many/12
		}
		for at := 0; at < many; at += step {
			verified(t, "a tree", shareOf(many, l, at, "a chunk"), api.OK)
		}
		verified(t, "a tree", shareOf(many, l, many-1, "a chunk"), api.OK)
	}
}

// 9.2: numbers of chunks, places, sizes and chunks at all edges that the chapter names; the proof is right, as far as there is one.
func TestVerifyEdges(t *testing.T) {
	c := strings.Repeat("c", chunkMost)
	for _, e := range []struct {
		size, many, at, bytes int
		want                  api.Errno
	}{
		// how many chunks
		{1, 1, 0, 1, api.OK}, {manyMost, manyMost, 0, 1, api.OK}, {fileMost, manyMost, manyMost - 1, 1, api.OK},
		{manyMost + 1, manyMost + 1, 0, 1, api.ErrArg}, {fileMost, manyMost + 1, manyMost, 1, api.ErrArg}, {fileMost, 2 * manyMost, 0, 1, api.ErrArg},
		// the size
		{1, 2, 0, 1, api.ErrArg}, {2, 2, 0, 1, api.OK}, {0, 1, 0, 1, api.ErrArg}, {-1, 1, 0, 1, api.ErrArg}, {math.MinInt, 1, 0, 1, api.ErrArg},
		{manyMost - 1, manyMost, 0, 1, api.ErrArg},
		{chunkMost, 1, 0, 1, api.OK}, {chunkMost + 1, 1, 0, 1, api.ErrArg}, {2 * chunkMost, 2, 1, 1, api.OK}, {2*chunkMost + 1, 2, 1, 1, api.ErrArg},
		{15 * chunkMost, 15, 3, 1, api.OK}, {15*chunkMost + 1, 15, 3, 1, api.ErrArg}, {fileMost, 15, 3, 1, api.ErrArg},
		{fileMost, 16, 3, 1, api.OK}, {fileMost + 1, 16, 3, 1, api.ErrArg}, {fileMost, 17, 3, 1, api.OK}, {fileMost + 1, 17, 3, 1, api.ErrArg}, {fileMost + 1, manyMost, 3, 1, api.ErrArg},
		{1<<32 + 1, 1, 0, 1, api.ErrArg}, {math.MaxInt, 1, 0, 1, api.ErrArg}, {math.MaxInt, manyMost, 0, 1, api.ErrArg},
		// the chunk: how many bytes it has hangs on nothing else
		{1, 1, 0, 0, api.ErrArg}, {1, 1, 0, chunkMost, api.OK}, {chunkMost, 1, 0, chunkMost, api.OK}, {chunkMost, 1, 0, chunkMost + 1, api.ErrArg}, {600, 2, 0, chunkMost - 1, api.OK}, {fileMost, manyMost, 7, 5000, api.ErrArg},
	} {
		x := shareOf(e.size, hashes(e.many), e.at, strings.Repeat(c, 20)[:e.bytes])
		verified(t, "an edge", x, e.want)
	}
}

// 9.2: numbers of chunks that no tree has, and places that are none, whatever the digests are.
func TestVerifyNoPlace(t *testing.T) {
	good := shareOf(700, hashes(5), 3, "a chunk")
	for _, many := range []int{0, -1, -5, math.MinInt, 257, 1 << 16, 1 << 32, 1<<32 + 5, math.MaxInt} {
		for _, at := range []int{0, 3, -1, many - 1, many} {
			for _, size := range []int{700, many, 0, fileMost} {
				x := copyOf(good)
				x.Many, x.At, x.Size = many, at, size
				verified(t, "a number", x, api.ErrArg)
			}
		}
	}
	for _, at := range []int{-1, -2, -5, math.MinInt, 5, 6, 8, 1 << 32, 1<<32 + 3, math.MaxInt} {
		x := copyOf(good)
		x.At = at
		verified(t, "a place", x, api.ErrArg)
	}
	one := shareOf(7, hashes(1), 0, "a chunk")
	one.At = 1
	verified(t, "a place behind the one", one, api.ErrArg)
	verified(t, "nothing", api.Share{}, api.ErrArg)
}

// 9.2: more or fewer digests than the way up has.
func TestVerifyDigests(t *testing.T) {
	for _, many := range []int{1, 2, 3, 4, 5, 8, 9, 31, 33, 255, manyMost} {
		for _, at := range []int{0, many / 2, many - 1} {
			good := shareOf(many, hashes(many), at, "a chunk")
			for n := range len(good.Path) {
				x := copyOf(good)
				x.Path = x.Path[:n]
				verified(t, "the first ones", x, api.ErrProof)
				x.Path = slices.Clone(good.Path[n+1:])
				verified(t, "the last ones", x, api.ErrProof)
				x.Path = slices.Delete(slices.Clone(good.Path), n, n+1)
				verified(t, "one fewer", x, api.ErrProof)
				x.Path = slices.Insert(slices.Clone(good.Path), n, good.Path[n])
				verified(t, "one twice", x, api.ErrProof)
			}
			for _, more := range []string{"", strings.Repeat("m", digested), digestOf("more")} {
				x := copyOf(good)
				x.Path = append(slices.Clone(good.Path), more)
				verified(t, "one behind", x, api.ErrProof)
				x.Path = append([]string{more}, good.Path...)
				verified(t, "one ahead", x, api.ErrProof)
			}
			x := copyOf(good)
			x.Path = append(slices.Clone(good.Path), hashes(1000)...)
			verified(t, "many more", x, api.ErrProof)
		}
	}
}

// 9.2: a digest beside the way that has not 32 bytes: it would come to the file's digest, if its length were let be.
func TestVerifyLengths(t *testing.T) {
	c := "a chunk"
	for n := range 70 {
		beside := strings.Repeat("b", n)
		want := api.ErrProof
		if n == digested {
			want = api.OK
		}
		for at := range 2 {
			l := []string{beside, beside}
			verified(t, "of two", shareOf(2, l, at, c), want)
		}
		verified(t, "of three", shareOf(3, []string{digestOf("a"), beside, digestOf("c")}, 0, c), want)
		verified(t, "of three", shareOf(3, []string{digestOf("a"), digestOf("b"), beside}, 1, c), want)
	}
	verified(t, "of two", shareOf(2, []string{"", strings.Repeat("b", 1<<16)}, 0, c), api.ErrProof)
}

// 9.2: a file's digest of another length.
func TestVerifyFileDigest(t *testing.T) {
	good := shareOf(700, hashes(5), 3, "a chunk")
	for n := range digested {
		x := copyOf(good)
		x.Digest = x.Digest[:n]
		verified(t, "a shorter digest", x, api.ErrProof)
	}
	for _, more := range []string{"\x00", "a", good.Digest} {
		x := copyOf(good)
		x.Digest += more
		verified(t, "a longer digest", x, api.ErrProof)
	}
	for i := range digested {
		for bit := range 8 {
			b := []byte(good.Digest)
			b[i] ^= 1 << bit
			x := copyOf(good)
			x.Digest = string(b)
			verified(t, "another digest", x, api.ErrProof)
		}
	}
}

// turned is a text with one bit of it another one.
func turned(s string, bit int) string {
	b := []byte(s)
	b[bit/8%len(b)] ^= 1 << (bit % 8)
	return string(b)
}

// 9.2: another chunk, size, number, place or digest: it shows nothing.
func TestVerifyOther(t *testing.T) {
	draw := drawer(9)
	for range 400 {
		many := 1 + draw(40)
		size := many + draw(min(chunkMost*many, fileMost)-many+1)
		good := shareOf(size, hashes(many), draw(many), drawn(draw, 1+draw(chunkMost), 256))
		verified(t, "right", good, api.OK)
		x := copyOf(good)
		x.Chunk = turned(x.Chunk, draw(8*len(x.Chunk)))
		verified(t, "another chunk", x, api.ErrProof)
		if len(good.Chunk) > 1 {
			x.Chunk = good.Chunk[1:]
			verified(t, "a shorter chunk", x, api.ErrProof)
		}
		for other := range 2 * many {
			x = copyOf(good)
			x.At = other
			want := api.ErrProof
			if other >= many {
				want = api.ErrArg
			} else if other == good.At {
				want = api.OK
			}
			verified(t, "another place", x, want)
		}
		for other := max(1, many-3); other <= many+3; other++ {
			x = copyOf(good)
			x.Many = other
			want := api.ErrProof
			if other <= x.At || x.Size < other || x.Size > chunkMost*other {
				want = api.ErrArg
			} else if other == many {
				want = api.OK
			}
			verified(t, "another number", x, want)
		}
		for level := range good.Path {
			x = copyOf(good)
			x.Path[level] = turned(x.Path[level], draw(8*digested))
			verified(t, "another digest beside the way", x, api.ErrProof)
		}
		if len(good.Path) > 1 {
			x = copyOf(good)
			slices.Reverse(x.Path)
			verified(t, "the digests the other way round", x, api.ErrProof)
		}
	}
}

// 9.2: each other size that may be.
func TestVerifySizes(t *testing.T) {
	good := shareOf(700, hashes(5), 3, "a chunk")
	for size := 5; size <= 5*chunkMost; size++ {
		x := copyOf(good)
		x.Size = size
		want := api.ErrProof
		if size == 700 {
			want = api.OK
		}
		verified(t, "another size", x, want)
	}
}

// 9.2: a digest of the tree is not that of a chunk: who hands in two roots as a chunk shows nothing.
func TestVerifyInnerAsChunk(t *testing.T) {
	l := hashes(4)
	inner := rootOf(l[:2]) + rootOf(l[2:])
	x := api.Share{Digest: fileDigestOf(64, l), Size: 64, Many: 1, Chunk: inner}
	verified(t, "two roots as a chunk", x, api.ErrProof)
	x = api.Share{Digest: fileDigestOf(64, l), Size: 64, Many: 2, Chunk: l[0] + l[1], Path: []string{rootOf(l[2:])}}
	verified(t, "two digests as a chunk", x, api.ErrProof)
}

// 9.2: which error it is where several apply: what may not be goes ahead of the proof.
func TestVerifyFirst(t *testing.T) {
	wrong := []func(x *api.Share){
		func(x *api.Share) { x.Many = 0 }, func(x *api.Share) { x.Many = manyMost + 1 },
		func(x *api.Share) { x.At = -1 }, func(x *api.Share) { x.At = x.Many },
		func(x *api.Share) { x.Size = x.Many - 1 }, func(x *api.Share) { x.Size = chunkMost*x.Many + 1 }, func(x *api.Share) { x.Size = fileMost + 1 },
		func(x *api.Share) { x.Chunk = "" }, func(x *api.Share) { x.Chunk = strings.Repeat("c", chunkMost+1) },
	}
	unproved := []func(x *api.Share){
		func(x *api.Share) {}, func(x *api.Share) { x.Path = nil }, func(x *api.Share) { x.Path = append(x.Path, x.Path...) },
		func(x *api.Share) { x.Path[0] = "short" }, func(x *api.Share) { x.Path[1] = strings.Repeat("h", 33) },
		func(x *api.Share) { x.Digest = "" }, func(x *api.Share) { x.Digest = strings.Repeat("h", 32) },
	}
	for i, a := range wrong {
		for j, b := range unproved {
			for k, c := range wrong {
				x := shareOf(700, hashes(20), 3, "a chunk")
				b(&x)
				a(&x)
				c(&x)
				verified(t, fmt.Sprint("wrong ", i, j, k), x, api.ErrArg)
			}
			x := shareOf(700, hashes(20), 3, "a chunk")
			b(&x)
			want := api.ErrProof
			if j == 0 {
				want = api.OK
			}
			verified(t, fmt.Sprint("unproved ", j), x, want)
			a(&x)
			verified(t, fmt.Sprint("wrong ", i, j), x, api.ErrArg)
		}
	}
}

// 9.2: shares that are drawn, some of them changed, held against the words.
func TestVerifyDrawn(t *testing.T) {
	draw, seen := drawer(10), make(map[api.Errno]int)
	for range 20000 {
		many := 1 + draw(12)
		x := shareOf(many+draw(600), hashes(many), draw(many), drawn(draw, draw(chunkMost+3), 256))
		l := hashes(many)
		l[x.At] = digestOf(x.Chunk)
		switch draw(12) {
		case 0:
			x.Many += draw(3) - 1
		case 1:
			x.At += draw(3) - 1
		case 2:
			x.Size += draw(3) - 1
		case 3:
			x.Path = append(x.Path, hashes(2)[1])
		case 4:
			if len(x.Path) > 0 {
				x.Path[draw(len(x.Path))] = strings.Repeat("b", 31+draw(3))
			}
		}
		want := api.OK
		switch right := x.Many == many && many > x.At && x.At >= 0; {
		case x.Many < 1 || x.At < 0 || x.At >= x.Many || x.Size < x.Many || x.Size > chunkMost*x.Many || x.Chunk == "" || len(x.Chunk) > chunkMost:
			want = api.ErrArg
		case !right || l[x.At] != digestOf(x.Chunk) || !slices.Equal(x.Path, pathOf(l, x.At)) || x.Digest != fileDigestOf(x.Size, l):
			want = api.ErrProof
		}
		verified(t, "drawn", x, want)
		seen[want]++
	}
	if seen[api.OK] < 1000 || seen[api.ErrArg] < 500 || seen[api.ErrProof] < 1000 {
		t.Errorf("drawn: %v", seen)
	}
}
