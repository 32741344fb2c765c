package merkle_test

import (
	"arbour/api"
	"arbour/merkle"
	"arbour/wire"
	"fmt"
	"math"
	"slices"
	"strings"
	"testing"
)

// bytesOf is a manifest's bytes by the chapter's words.
func bytesOf(m api.Manifest) string {
	return fmt.Sprintf("%08x%08x", m.Size, len(m.Chunks)) + strings.Join(m.Chunks, "")
}

// shareBytes is a share's bytes by the chapter's words.
func shareBytes(x api.Share) string {
	return x.Digest + fmt.Sprintf("%08x%08x%08x%08x", x.Size, x.Many, x.At, len(x.Chunk)) + x.Chunk + fmt.Sprintf("%02x", len(x.Path)) + strings.Join(x.Path, "")
}

// decoded wants the manifest of bytes, twice.
func decoded(t *testing.T, s string, want api.Manifest) {
	t.Helper()
	for range 2 {
		if m, e := merkle.Decode(s); !sameManifest(m, want) || e != api.OK {
			t.Fatalf("Decode(%.60q): %d bytes, %d chunks, %d; not %d, %d", s, m.Size, len(m.Chunks), int(e), want.Size, len(want.Chunks))
		}
	}
}

// undecoded wants an error of bytes, and no manifest.
func undecoded(t *testing.T, s string, want api.Errno) {
	t.Helper()
	if m, e := merkle.Decode(s); !noManifest(m) || e != want {
		t.Fatalf("Decode(%.60q) of %d bytes: %d bytes, %d chunks, %d; not %d", s, len(s), m.Size, len(m.Chunks), int(e), int(want))
	}
}

// manifests is some that may be: files', and ones at the edges that are no file's.
func manifests(t *testing.T) []api.Manifest {
	t.Helper()
	var l []api.Manifest
	for _, s := range texts(t) {
		l = append(l, manifestOf(s))
	}
	for _, c := range [][2]int{{1, 1}, {512, 1}, {2, 2}, {1024, 2}, {3, 3}, {16, 16}, {8192, 16}, {256, 256}, {8192, 256}} {
		l = append(l, api.Manifest{Size: c[0], Chunks: hashes(c[1])})
	}
	l = append(l, api.Manifest{Size: 2, Chunks: slices.Repeat([]string{strings.Repeat("\x00", 32)}, 2)})
	return append(l, api.Manifest{Size: 3, Chunks: []string{strings.Repeat("\xff", 32), strings.Repeat("0", 32), strings.Repeat("z", 32)}})
}

// 9.1: each that may be is read again as it was.
func TestEncodeDecode(t *testing.T) {
	for _, m := range manifests(t) {
		s, e := merkle.Encode(m)
		if s != bytesOf(m) || e != api.OK {
			t.Fatalf("Encode of %d chunks: %.60q, %d", len(m.Chunks), s, int(e))
		}
		decoded(t, s, m)
	}
	decoded(t, "0000000000000000", api.Manifest{})
	decoded(t, "0000000300000001"+digestOf("abc"), api.Manifest{Size: 3, Chunks: []string{digestOf("abc")}})
}

// 9.1: bytes that end anywhere within.
func TestDecodeCut(t *testing.T) {
	for _, m := range manifests(t) {
		s := bytesOf(m)
		step := 1 + len(s)/300
		for n := 0; n < len(s); n += step {
			undecoded(t, s[:n], api.ErrCut)
		}
		undecoded(t, s[:len(s)-1], api.ErrCut)
	}
	// A number of chunks that is greater than how many there are.
	for _, many := range []int{1, 2, 3, 256} {
		for there := range many {
			undecoded(t, fmt.Sprintf("%08x%08x", many, many)+strings.Join(hashes(there), ""), api.ErrCut)
		}
	}
}

// 9.1: bytes behind the end.
func TestDecodeMore(t *testing.T) {
	for _, m := range manifests(t) {
		for _, more := range []string{"0", "\x00", "zz", strings.Repeat("h", 32), bytesOf(m)} {
			undecoded(t, bytesOf(m)+more, api.ErrMore)
		}
	}
}

// 9.1: counts that are more than may be.
func TestDecodeMany(t *testing.T) {
	all := strings.Join(hashes(manyMost), "")
	more := strings.Join(hashes(manyMost+1), "")
	for _, size := range []uint32{fileMost + 1, 2 * fileMost, 1 << 16, math.MaxInt32, 1 << 31, math.MaxUint32} {
		undecoded(t, fmt.Sprintf("%08x%08x", size, manyMost)+all, api.ErrMany)
		undecoded(t, fmt.Sprintf("%08x", size), api.ErrMany)
	}
	for _, many := range []uint32{manyMost + 1, 2 * manyMost, 1 << 16, math.MaxInt32, 1 << 31, math.MaxUint32} {
		undecoded(t, fmt.Sprintf("%08x%08x", fileMost, many)+more, api.ErrMany)
		undecoded(t, fmt.Sprintf("%08x%08x", fileMost, many), api.ErrMany)
	}
	decoded(t, fmt.Sprintf("%08x%08x", fileMost, manyMost)+all, api.Manifest{Size: fileMost, Chunks: hashes(manyMost)})
}

// 9.1: letters that are no digits, at each place of both counts.
func TestDecodeLetters(t *testing.T) {
	s := bytesOf(api.Manifest{Size: 300, Chunks: hashes(2)})
	for i := range 16 {
		for c := range 256 {
			if strings.IndexByte("0123456789abcdef", byte(c)) < 0 {
				undecoded(t, s[:i]+string([]byte{byte(c)})+s[i+1:], api.ErrForm)
			}
		}
	}
}

// 9.1: bytes of the form whose manifest may not be.
func TestDecodeMayNotBe(t *testing.T) {
	for _, c := range [][2]int{{0, 1}, {1, 0}, {8192, 0}, {1, 2}, {255, 256}, {0, 256}, {513, 1}, {1025, 2}, {8192, 15}, {8192, 1}} {
		m := api.Manifest{Size: c[0], Chunks: hashes(c[1])}
		checked(t, m, api.ErrForm)
		undecoded(t, bytesOf(m), api.ErrForm)
	}
}

// 9.1: which error it is where several apply: the reader's first one, ErrMore, ErrForm.
func TestDecodeFirst(t *testing.T) {
	h := strings.Repeat("h", 32)
	for _, c := range []struct {
		s    string
		want api.Errno
	}{
		// among the reader's: the one that stands first
		{"zzzzzzz", api.ErrCut},
		{"0000000z", api.ErrForm},
		{"0000000z" + "ffffffff", api.ErrForm},
		{"ffffffff" + "zzzzzzzz", api.ErrMany},
		{"ffffffff" + "0000", api.ErrMany},
		{"00002000" + "zzzzzzz", api.ErrCut},
		{"00002000" + "0000010z", api.ErrForm},
		{"00002000" + "00000101" + h, api.ErrMany},
		// the reader's ahead of ErrForm of what may not be
		{"00000000" + "00000001" + h[1:], api.ErrCut},
		{"00000000" + "00000101", api.ErrMany},
		{"00000001" + "00000002" + h, api.ErrCut},
		// ErrMore ahead of ErrForm
		{"00000000" + "00000001" + h + "more", api.ErrMore},
		{"00000001" + "00000000" + h, api.ErrMore},
		{"00000201" + "00000001" + h + "\x00", api.ErrMore},
		// and that where nothing else is wrong
		{"00000000" + "00000001" + h, api.ErrForm},
		{"00000001" + "00000000", api.ErrForm},
		{"00000201" + "00000001" + h, api.ErrForm},
	} {
		undecoded(t, c.s, c.want)
	}
}

// 9.1: bytes with something changed are a manifest of just these bytes, or none.
func TestDecodeChanged(t *testing.T) {
	draw, many := drawer(8), 0
	all := []api.Manifest{{}, {Size: 1, Chunks: hashes(1)}, {Size: 700, Chunks: hashes(2)}, {Size: 90, Chunks: hashes(3)}, {Size: 8192, Chunks: hashes(20)}}
	for range 40000 {
		b := []byte(bytesOf(all[draw(len(all))]))
		for range 1 + draw(2) {
			i := draw(len(b))
			if draw(2) == 0 {
				i = draw(min(16, len(b)))
			}
			switch draw(6) {
			case 0:
				b = slices.Delete(b, i, i+1)
			case 1:
				b = slices.Insert(b, i, byte(draw(256)))
			default:
				b[i] = "0123456789abcdef\x00z"[draw(18)]
			}
		}
		m, e := merkle.Decode(string(b))
		if e != api.OK && !noManifest(m) {
			t.Fatalf("Decode(%.60q): %d chunks with the error %d", b, len(m.Chunks), int(e))
		}
		if e == api.OK {
			many++
			if merkle.Check(m) != api.OK || bytesOf(m) != string(b) {
				t.Fatalf("Decode(%.60q): %d bytes, %d chunks", b, m.Size, len(m.Chunks))
			}
		}
	}
	if many < 1000 {
		t.Errorf("only %d of the changed bytes were a manifest", many)
	}
}

// 9.1: what Decode answers is the caller's.
func TestDecodeIsTheCallers(t *testing.T) {
	s := bytesOf(api.Manifest{Size: 700, Chunks: hashes(5)})
	m, _ := merkle.Decode(s)
	m.Chunks[0] = "other"
	_ = append(m.Chunks[:1], "other")
	decoded(t, s, api.Manifest{Size: 700, Chunks: hashes(5)})
}

// anyShares is shares that need not show anything, whatever they say.
func anyShares() []api.Share {
	h := strings.Repeat("\x00", 32)
	return []api.Share{
		{Digest: h},
		{Digest: strings.Repeat("\xff", 32), Size: 1, Many: 2, At: 3, Chunk: "abc", Path: hashes(4)},
		{Digest: h, Size: fileMost + 1, Many: manyMost + 1, At: manyMost + 2, Chunk: strings.Repeat("c", chunkMost+1), Path: hashes(9)},
		{Digest: h, Size: math.MaxInt32, Many: 1 << 31, At: math.MaxUint32, Chunk: strings.Repeat("c", 70000), Path: hashes(254)},
		{Digest: h, Size: math.MaxUint32, Many: math.MaxUint32, At: 1 << 31, Path: hashes(255)},
	}
}

// allShares is shares that were shown, and others.
func allShares(t *testing.T) []api.Share {
	t.Helper()
	l := anyShares()
	for i, s := range texts(t) {
		m := manifestOf(s)
		if len(m.Chunks) > 0 {
			x, _ := merkle.Show(s, (i*7919)%len(m.Chunks))
			l = append(l, x)
		}
	}
	return l
}

// 9.2: what was put is taken again, among other things, one behind the other.
func TestPutTake(t *testing.T) {
	w, want := wire.NewWriter(), "00000005ahead"
	w.Text("ahead")
	shares := allShares(t)
	for _, x := range shares {
		given := copyOf(x)
		merkle.Put(w, x)
		w.Bool(true)
		want += shareBytes(x) + "y"
		if w.All() != want {
			t.Fatalf("Put of chunk %d of %d: other bytes", x.At, x.Many)
		}
		if !sameShare(x, given) {
			t.Fatal("Put changed the share")
		}
	}
	r := wire.NewReader(want)
	r.Text(5)
	for _, x := range shares {
		from := r.At()
		if got := merkle.Take(r); !sameShare(got, x) || r.Err() != api.OK || r.At() != from+len(shareBytes(x)) {
			t.Fatalf("Take at %d: chunk %d of %d, %d, at %d", from, got.At, got.Many, int(r.Err()), r.At())
		}
		if !r.Bool() {
			t.Fatal("Take took something else")
		}
	}
	if e := r.End(); e != api.OK {
		t.Fatalf("the end: %d", int(e))
	}
}

// 9.2: shares' bytes, written out.
func TestPutWritten(t *testing.T) {
	d, a, b := strings.Repeat("d", 32), strings.Repeat("a", 32), strings.Repeat("b", 32)
	for want, x := range map[string]api.Share{
		d + "00000003" + "00000001" + "00000000" + "00000003abc" + "00":                                     {Digest: d, Size: 3, Many: 1, Chunk: "abc"},
		d + "00000102" + "00000003" + "00000001" + "00000001c" + "02" + a + b:                               {Digest: d, Size: 258, Many: 3, At: 1, Chunk: "c", Path: []string{a, b}},
		d + "00000000" + "00000000" + "00000000" + "00000000" + "01" + b:                                    {Digest: d, Size: -1, Many: -5, At: math.MinInt, Path: []string{b}},
		d + "00000001" + "00000000" + "00000002" + "00000000" + "00":                                        {Digest: d + "more", Size: 1<<32 + 1, Many: 1 << 32, At: 1<<40 + 2},
		"dd" + strings.Repeat("\x00", 30) + strings.Repeat("0", 32) + "02" + strings.Repeat("\x00", 32) + a: {Digest: "dd", Path: []string{"", a + "a"}},
	} {
		w := wire.NewWriter()
		merkle.Put(w, x)
		if w.All() != want {
			t.Errorf("Put: %q, not %q", w.All(), want)
		}
	}
	// How many digests is a byte, whatever their number.
	w := wire.NewWriter()
	merkle.Put(w, api.Share{Digest: d, Path: hashes(256 + 3)})
	if want := d + strings.Repeat("0", 32) + "03" + strings.Join(hashes(259), ""); w.All() != want {
		t.Errorf("Put of 259 digests: %d bytes, not %d", w.Len(), len(want))
	}
}

// untaken wants an error of a reader and no share, and that both stay so.
func untaken(t *testing.T, what string, r *wire.Reader, want api.Errno) {
	t.Helper()
	for range 2 {
		if x := merkle.Take(r); !noShare(x) || r.Err() != want {
			t.Fatalf("Take of %s: chunk %d of %d, %d; not %d", what, x.At, x.Many, int(r.Err()), int(want))
		}
		r.Fail(api.ErrNone)
		if r.Err() != want || r.End() != want {
			t.Fatalf("%s: the error is %d, not %d any more", what, int(r.Err()), int(want))
		}
	}
}

// 9.2: bytes that end anywhere within.
func TestTakeCut(t *testing.T) {
	for _, x := range allShares(t) {
		s := shareBytes(x)
		step := 1 + len(s)/400
		for n := 0; n < len(s); n += step {
			untaken(t, fmt.Sprintf("%d of %d bytes", n, len(s)), wire.NewReader(s[:n]), api.ErrCut)
		}
		untaken(t, "all but one", wire.NewReader(s[:len(s)-1]), api.ErrCut)
	}
}

// 9.2: a number of digests that is more than there are, and fewer.
func TestTakeDigests(t *testing.T) {
	x := api.Share{Digest: strings.Repeat("d", 32), Size: 3, Many: 9, At: 4, Chunk: "abc"}
	ahead := strings.TrimSuffix(shareBytes(x), "00")
	for there := range 6 {
		behind := strings.Join(hashes(there), "")
		for told := range 256 {
			s := ahead + fmt.Sprintf("%02x", told) + behind
			r := wire.NewReader(s)
			if told > there {
				untaken(t, fmt.Sprintf("%d digests of %d", told, there), r, api.ErrCut)
				continue
			}
			x.Path = hashes(there)[:told]
			if got := merkle.Take(r); !sameShare(got, x) || r.Err() != api.OK || r.Left() != 32*(there-told) {
				t.Fatalf("%d digests of %d: %d, %d, with %d left", told, there, len(got.Path), int(r.Err()), r.Left())
			}
		}
	}
}

// 9.2: letters that are no digits, and a chunk that is longer than what is there.
func TestTakeForm(t *testing.T) {
	s := shareBytes(api.Share{Digest: strings.Repeat("d", 32), Size: 3, Many: 9, At: 4, Chunk: "abc", Path: hashes(1)})
	for i := 32; i < 32+32+3+2; i++ {
		if i >= 64 && i < 67 {
			continue
		}
		for _, c := range []string{"z", "A", "g", "/", ":", " ", "\x00", "\xff"} {
			untaken(t, fmt.Sprintf("%q at %d", c, i), wire.NewReader(s[:i]+c+s[i+1:]), api.ErrForm)
		}
	}
	for _, n := range []int{len(s), 1 << 20, math.MaxInt32, math.MaxUint32} {
		untaken(t, fmt.Sprintf("a chunk of %d bytes", n), wire.NewReader(s[:56]+fmt.Sprintf("%08x", n)+s[64:]), api.ErrCut)
	}
}

// 9.2: a nil writer, a nil reader, and a reader that has an error already.
func TestNobody(t *testing.T) {
	x, _ := merkle.Show("abc", 0)
	var w *wire.Writer
	merkle.Put(w, x)
	if w.Len() != 0 || w.All() != "" {
		t.Error("a nil writer has something")
	}
	untaken(t, "a nil reader", nil, api.ErrArg)
	for _, e := range []api.Errno{api.ErrOp, api.ErrProof, api.ErrCut} {
		r := wire.NewReader(shareBytes(x))
		r.Fail(e)
		untaken(t, "a reader with an error", r, e)
		if r.At() != 0 {
			t.Errorf("%d bytes were taken", r.At())
		}
	}
}

// 9.2: what Take answers is the caller's.
func TestTakeIsTheCallers(t *testing.T) {
	s := shareBytes(api.Share{Digest: strings.Repeat("d", 32), Path: hashes(3)})
	first, second := merkle.Take(wire.NewReader(s)), merkle.Take(wire.NewReader(s))
	first.Path[0] = "other"
	_ = append(first.Path[:1], "other")
	if !slices.Equal(second.Path, hashes(3)) {
		t.Error("one share's change is seen in another one")
	}
}
