package frame_test

import (
	"arbour/api"
	"arbour/frame"
	"arbour/mac"
	"arbour/merkle"
	"arbour/node"
	"arbour/stamp"
	"fmt"
	"math"
	"slices"
	"strings"
	"testing"
)

// encoded wants bytes, twice, and that what was said is as it was.
func encoded(t *testing.T, x api.Say, want string) {
	t.Helper()
	was := copied(x)
	for range 2 {
		if s := frame.Encode(x); s != want {
			t.Fatalf("Encode(%s): %.90q, not %.90q", short(x), s, want)
		}
	}
	if !same(x, was) {
		t.Fatalf("Encode changed what was said: %s, not %s", short(x), short(was))
	}
}

// decoded wants what bytes say, twice.
func decoded(t *testing.T, s string, want api.Say) {
	t.Helper()
	for range 2 {
		if x, e := frame.Decode(s); !same(x, want) || e != api.OK {
			t.Fatalf("Decode(%.90q): %s, %d; not %s", s, short(x), int(e), short(want))
		}
	}
}

// refused wants an error of bytes, twice, and that nothing is said.
func refused(t *testing.T, s string, want api.Errno) {
	t.Helper()
	for range 2 {
		if x, e := frame.Decode(s); !same(x, api.Say{}) || e != want {
			t.Fatalf("Decode(%.90q) of %d bytes: %s, %d; not %d", s, len(s), short(x), int(e), int(want))
		}
	}
}

// both wants that what is said has bytes, and that these say it.
func both(t *testing.T, x api.Say, s string) {
	t.Helper()
	encoded(t, x, s)
	decoded(t, s, x)
}

// shares is a file's, at each place, and one of a file of one chunk.
func shares(t *testing.T) []api.Share {
	t.Helper()
	var l []api.Share
	long := text(5000)
	m, e := merkle.Of(long)
	if e != api.OK || len(m.Chunks) < 5 {
		t.Fatalf("a file of %d chunks, %d", len(m.Chunks), int(e))
	}
	for at := range m.Chunks {
		x, e := merkle.Show(long, at)
		if e != api.OK || merkle.Verify(x) != api.OK {
			t.Fatalf("Show(.., %d): %d", at, int(e))
		}
		l = append(l, x)
	}
	x, e := merkle.Show("a", 0)
	if e != api.OK {
		t.Fatalf("Show of one byte: %d", int(e))
	}
	return append(l, x)
}

// odd is shares that show nothing, and have bytes nevertheless.
func odd() []api.Share {
	h := filled("")
	return []api.Share{
		{Digest: h},
		{Digest: hashes(1)[0], Size: math.MaxInt32, Many: math.MaxUint32, At: 1 << 31, Chunk: text(3000), Path: hashes(3)},
		{Digest: h, Size: 1, Many: 1, At: 5, Chunk: "c", Path: hashes(255)},
		{Digest: h, Many: 2, Chunk: strings.Repeat("\xff", 513)},
	}
}

// says is what may be said, of each kind, ordinary and at the edges.
func says(t *testing.T) []api.Say {
	t.Helper()
	var l []api.Say
	for _, kind := range []int{api.SayHeads, api.SayWant} {
		for _, n := range []int{0, 1, 2, hashesMost - 1, hashesMost} {
			l = append(l, api.Say{Kind: kind, Hashes: hashes(n)})
		}
		l = append(l, api.Say{Kind: kind, Hashes: []string{filled(""), filled("\xff"), filled("\xff")}})
	}
	for _, n := range []int{0, 1, 2, givesMost - 1, givesMost} {
		l = append(l, api.Say{Kind: api.SayGive, Nodes: nodes(n)})
		l = append(l, api.Say{Kind: api.SayGive, Nodes: slices.Repeat([]string{text(nodeMost)}, n)})
	}
	for _, at := range []int{0, 1, 255, 256, 65535, placeMost} {
		l = append(l, api.Say{Kind: api.SayAsk, File: hashes(9)[8], At: at})
	}
	for _, x := range append(shares(t), odd()...) {
		l = append(l, api.Say{Kind: api.SayShare, Share: x})
	}
	return l
}

// 19.1, the example: of nothing there are the kind and a count, five bytes of two digits each.
func TestExample(t *testing.T) {
	both(t, api.Say{Kind: api.SayHeads}, "0100000000")
	if s := frame.Encode(api.Say{Kind: api.SayHeads}); len(s) != 2*5 {
		t.Errorf("%d digits", len(s))
	}
}

// 19.1: bytes of each kind, written out.
func TestWritten(t *testing.T) {
	h, g := strings.Repeat("h", 32), strings.Repeat("g", 32)
	both(t, api.Say{Kind: api.SayHeads, Hashes: []string{}}, "0100000000")
	both(t, api.Say{Kind: api.SayHeads, Hashes: []string{h}}, "0100000001"+h)
	both(t, api.Say{Kind: api.SayHeads, Hashes: []string{h, g, h}}, "0100000003"+h+g+h)
	both(t, api.Say{Kind: api.SayGive}, "0200000000")
	both(t, api.Say{Kind: api.SayGive, Nodes: []string{""}}, "020000000100000000")
	both(t, api.Say{Kind: api.SayGive, Nodes: []string{"a", "bc"}}, "020000000200000001a00000002bc")
	both(t, api.Say{Kind: api.SayWant}, "0300000000")
	both(t, api.Say{Kind: api.SayWant, Hashes: []string{g, h}}, "0300000002"+g+h)
	both(t, api.Say{Kind: api.SayAsk, File: h}, "04"+h+"00000000")
	both(t, api.Say{Kind: api.SayAsk, File: g, At: 65536}, "04"+g+"00010000")
	both(t, api.Say{Kind: api.SayShare, Share: api.Share{Digest: h, Size: 10, Many: 2, At: 1, Chunk: "abc", Path: []string{g}}}, "05"+h+"0000000a"+"00000002"+"00000001"+"00000003abc"+"01"+g)
	both(t, api.Say{Kind: api.SayShare, Share: api.Share{Digest: g}}, "05"+g+"00000000"+"00000000"+"00000000"+"00000000"+"00")
}

// 19.1: what was told is read again as it was, and what was read, told again, is the same bytes.
func TestToldAndRead(t *testing.T) {
	for _, x := range says(t) {
		s := bytesOf(x)
		both(t, x, s)
		y, _ := frame.Decode(s)
		encoded(t, y, s)
	}
}

// 19.1: more than there may be is told, and not read.
func TestTooMany(t *testing.T) {
	for _, kind := range []int{api.SayHeads, api.SayWant} {
		for _, n := range []int{hashesMost + 1, 64, 300} {
			x := api.Say{Kind: kind, Hashes: hashes(n)}
			encoded(t, x, fmt.Sprintf("%02x%08x", kind, n)+strings.Join(x.Hashes, ""))
			refused(t, frame.Encode(x), api.ErrMany)
		}
	}
	for _, n := range []int{givesMost + 1, 32, 300} {
		x := api.Say{Kind: api.SayGive, Nodes: nodes(n)}
		encoded(t, x, bytesOf(x))
		refused(t, frame.Encode(x), api.ErrMany)
	}
	for _, n := range []int{nodeMost + 1, 1000, 70000} {
		for _, l := range [][]string{{text(n)}, {"a", text(n)}, {text(n), "a"}, append(nodes(givesMost-1), text(n))} {
			x := api.Say{Kind: api.SayGive, Nodes: l}
			encoded(t, x, bytesOf(x))
			refused(t, frame.Encode(x), api.ErrMany)
		}
	}
	for _, at := range []int{placeMost + 1, 1 << 20, math.MaxInt32, 1 << 31, math.MaxUint32} {
		x := api.Say{Kind: api.SayAsk, File: hashes(1)[0], At: at}
		encoded(t, x, "04"+x.File+fmt.Sprintf("%08x", at))
		refused(t, frame.Encode(x), api.ErrMany)
	}
}

// 19.1: numbers and digests that have no bytes of their own are told as wire tells them.
func TestToldOtherwise(t *testing.T) {
	h := hashes(1)[0]
	for _, at := range []int{-1, -65536, math.MinInt} {
		encoded(t, api.Say{Kind: api.SayAsk, File: h, At: at}, "04"+h+"00000000")
	}
	encoded(t, api.Say{Kind: api.SayAsk, File: h, At: 1<<32 + 5}, "04"+h+"00000005")
	for _, n := range []int{0, 1, 31, 32, 33, 500} {
		x := api.Say{Kind: api.SayAsk, File: text(n), At: 3}
		encoded(t, x, "04"+filled(x.File)+"00000003")
		decoded(t, frame.Encode(x), api.Say{Kind: api.SayAsk, File: filled(x.File), At: 3})
		for _, kind := range []int{api.SayHeads, api.SayWant} {
			y := api.Say{Kind: kind, Hashes: []string{h, x.File, h}}
			encoded(t, y, fmt.Sprintf("%02x00000003", kind)+h+filled(x.File)+h)
			decoded(t, frame.Encode(y), api.Say{Kind: kind, Hashes: []string{h, filled(x.File), h}})
		}
	}
	// How many digests a share has is a byte alone: of 256 none is read, and they stand behind the end.
	x := api.Say{Kind: api.SayShare, Share: api.Share{Digest: h, Path: hashes(256)}}
	encoded(t, x, bytesOf(x))
	refused(t, bytesOf(x), api.ErrMore)
	encoded(t, api.Say{Kind: api.SayShare, Share: api.Share{Size: -1, Many: -2, At: -3}}, "05"+filled("")+strings.Repeat("0", 34))
}

// 19.1: only what belongs to a kind is told of it, and read of it.
func TestOfItsKind(t *testing.T) {
	full := api.Say{Hashes: hashes(2), Nodes: nodes(3), File: hashes(5)[4], At: 77, Share: shares(t)[1]}
	only := []api.Say{
		1: {Hashes: full.Hashes},
		2: {Nodes: full.Nodes},
		3: {Hashes: full.Hashes},
		4: {File: full.File, At: full.At},
		5: {Share: full.Share},
	}
	for kind := 1; kind <= 5; kind++ {
		full.Kind, only[kind].Kind = kind, kind
		encoded(t, full, bytesOf(only[kind]))
		decoded(t, frame.Encode(full), only[kind])
	}
}

// 19.1: of another kind its byte alone is told, the lowest one where the number is none; as bytes it is of no form.
func TestKinds(t *testing.T) {
	for kind, want := range map[int]string{
		0: "00", 6: "06", 9: "09", 16: "10", 127: "7f", 128: "80", 255: "ff",
		256: "00", 257: "01", 258: "02", 261: "05", 262: "06", 511: "ff", 1 << 16: "00", 1<<32 + 1: "01", math.MaxInt: "ff",
		-1: "ff", -2: "fe", -250: "06", -251: "05", -255: "01", -256: "00", math.MinInt: "00",
	} {
		encoded(t, api.Say{Kind: kind}, want)
		encoded(t, api.Say{Kind: kind, Hashes: hashes(3), Nodes: nodes(2), File: hashes(1)[0], At: 4, Share: odd()[1]}, want)
	}
	for kind := range 256 {
		s := fmt.Sprintf("%02x", kind)
		if kind >= 1 && kind <= 5 {
			refused(t, s, api.ErrCut)
			continue
		}
		encoded(t, api.Say{Kind: kind}, s)
		refused(t, s, api.ErrForm)
		for _, behind := range []string{"0", "00000000", "\xff", bytesOf(api.Say{Kind: 1}), text(1000)} {
			refused(t, s+behind, api.ErrForm)
		}
	}
	for a := range 256 {
		for b := range 256 {
			s := string([]byte{byte(a), byte(b)})
			if !number.MatchString(s) {
				refused(t, s, api.ErrForm)
				refused(t, s+"00000000", api.ErrForm)
			}
		}
	}
}

// T5: the longest node that may be, as often as there may be, and each chunk of the longest file come through as they are.
func TestAllThatMayBe(t *testing.T) {
	ring, e := mac.NewRing("seed", api.MaxReplicas)
	if e != api.OK {
		t.Fatal(e)
	}
	at := api.Stamp{Count: api.MaxCount, Who: api.MaxReplicas - 1}
	o := api.Op{Kind: api.OpCreate, At: at, Thing: stamp.Thing(at), Parent: api.Root, Name: strings.Repeat("n", api.MaxName)}
	n, e := node.Sign(ring, api.Node{Author: at.Who, Parents: hashes(api.MaxParents), Op: o})
	s, e2 := node.Encode(n)
	if e != api.OK || e2 != api.OK {
		t.Fatal(e, e2)
	}
	give := api.Say{Kind: api.SayGive, Nodes: slices.Repeat([]string{s}, api.MaxGive)}
	both(t, give, bytesOf(give))
	file := text(api.MaxFile)
	m, e := merkle.Of(file)
	if e != api.OK {
		t.Fatal(e)
	}
	for at := range m.Chunks {
		x, _ := merkle.Show(file, at)
		y, e := frame.Decode(frame.Encode(api.Say{Kind: api.SayShare, Share: x}))
		if e != api.OK || merkle.Verify(y.Share) != api.OK || y.Share.Chunk != x.Chunk || y.Share.Digest != merkle.File(m) {
			t.Fatalf("chunk %d: %d, %d", at, int(e), int(merkle.Verify(y.Share)))
		}
	}
}

// R2: what is answered is the caller's, and what was said stays as it was.
func TestOwn(t *testing.T) {
	for _, x := range []api.Say{{Kind: 1, Hashes: hashes(4)}, {Kind: 2, Nodes: nodes(4)}, {Kind: 3, Hashes: hashes(4)}, {Kind: 5, Share: shares(t)[0]}} {
		s := bytesOf(x)
		y, _ := frame.Decode(s)
		for _, l := range [][]string{y.Hashes, y.Nodes, y.Share.Path} {
			for i := range l {
				l[i] = "other"
			}
			_ = append(l[:0], "others")
		}
		decoded(t, s, x)
		encoded(t, x, s)
	}
}
