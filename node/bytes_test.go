package node_test

import (
	"arbour/api"
	"arbour/node"
	"arbour/op"
	"arbour/wire"
	"encoding/hex"
	"fmt"
	"slices"
	"strconv"
	"strings"
	"testing"
)

// known is a node of the seed s, its bytes without the tag written out, and its digest and tag as another program made them of the chapter's words.
type known struct {
	n               api.Node
	body, hash, tag string
}

func knowns() []known {
	eight := []string{digest(0), digest(1), digest(2), digest(3), digest(4), digest(5), digest(6), digest(7)}
	return []known{{
		api.Node{Author: 2, Op: api.Op{Kind: 3, At: api.Stamp{Count: 1, Who: 2}, Thing: 20}},
		"02" + "00" + "03" + "0000000000000001" + "02" + "0000000000000014",
		"107bff2484dbd774ae02f5e8c1dbb3e122c6978e923bbc19a59f60e6b50690d7",
		"170d4dd83a367079f07aa834ec47f5456190a7fcdffaf64bfaf086f17d5d759f",
	}, {
		api.Node{Author: 2, Parents: []string{digest('a'), digest('b')}, Op: api.Op{Kind: 1, At: api.Stamp{Count: 3, Who: 2}, Thing: 50, Name: "a"}},
		"02" + "02" + digest('a') + digest('b') + "01" + "0000000000000003" + "02" + "0000000000000032" + "n" + "0000000000000000" + "00000001a",
		"a65e2638f0a1fab6624e85c54910f50e714272a7a0b33fc6b31b400358a1dec0",
		"6c3d28e5e870603e8ad4863c24a9b65c03ee44e0057220715e7aee6bebe565f4",
	}, {
		api.Node{Author: 15, Parents: eight, Op: api.Op{Kind: 4, At: api.Stamp{Count: greatest, Who: 15}, Thing: 20, Digest: digest('d'), Size: 7}},
		"0f" + "08" + strings.Join(eight, "") + "04" + "0000ffffffffffff" + "0f" + "0000000000000014" + digest('d') + "00000007",
		"5e54170adb84e6090d242bd1da9f94661ac3e02fb174a460e6d100c2c39d6b56",
		"d3e809440d20a107e76df035ea8e2106b698f76b0e2bee71a67c51cd9ebb6012",
	}}
}

// decoded wants the node of bytes, twice.
func decoded(t *testing.T, s string, want api.Node) {
	t.Helper()
	for range 2 {
		if n, e := node.Decode(s); !equal(n, want) || e != api.OK {
			t.Fatalf("Decode(%q): %s, %d; not %s", s, tell(n), int(e), tell(want))
		}
	}
}

// undecoded wants an error of bytes, and no node.
func undecoded(t *testing.T, s string, want api.Errno) {
	t.Helper()
	if n, e := node.Decode(s); !none(n) || e != want {
		t.Fatalf("Decode(%.600q) of %d bytes: %s, %d; not %d", s, len(s), tell(n), int(e), int(want))
	}
}

// hashed wants a node's digest, and that the node stays as it is.
func hashed(t *testing.T, n api.Node) string {
	t.Helper()
	given := copyOf(n)
	h := node.Hash(n)
	if h != hashOf(n) || node.Hash(n) != h {
		t.Fatalf("Hash(%s): %x, not %x", tell(n), h, hashOf(n))
	}
	if !equal(n, given) {
		t.Fatalf("Hash changed %s", tell(given))
	}
	return h
}

// 11.1: digests and bytes that are known.
func TestKnown(t *testing.T) {
	for _, c := range knowns() {
		if h := hex.EncodeToString([]byte(hashed(t, c.n))); h != c.hash {
			t.Errorf("Hash of %q: %s, not %s", c.body, h, c.hash)
		}
		tag, _ := hex.DecodeString(c.tag)
		c.n.Tag = string(tag)
		if s, e := node.Encode(c.n); s != c.body+string(tag) || e != api.OK {
			t.Errorf("Encode: %q, %d; not %q", s, int(e), c.body+string(tag))
		}
		decoded(t, c.body+string(tag), c.n)
	}
}

// 11.1: the digest of each node; nodes that are unlike in anything but their tags have unlike ones.
func TestHash(t *testing.T) {
	seen := make(map[string]api.Node)
	all := goodNodes()
	for i, n := range all {
		for _, o := range otherOps(n.Op) {
			if i%16 == 0 && op.Check(o) == api.OK {
				all = append(all, with(n, func(n *api.Node) { n.Op = o }))
			}
		}
	}
	for _, n := range all {
		h := hashed(t, n)
		n.Tag = ""
		if other, ok := seen[h]; ok && !equal(other, n) {
			t.Fatalf("%s and %s have the same digest", tell(n), tell(other))
		}
		seen[h] = n
	}
	if len(seen) < 200 {
		t.Errorf("only %d digests", len(seen))
	}
}

// 11.1: the tag is not in the digest, whatever it is.
func TestHashTags(t *testing.T) {
	for _, n := range goodNodes() {
		want := hashed(t, n)
		for _, tag := range append(goodTags(), badTags()...) {
			if h := hashed(t, with(n, func(n *api.Node) { n.Tag = tag })); h != want {
				t.Fatalf("Hash(%s) with the tag %q: %x, not %x", tell(n), tag, h, want)
			}
		}
	}
}

// 11.1: each bit of a parent, and how many there are, is in the digest.
func TestHashParents(t *testing.T) {
	n := some()
	seen := map[string]bool{hashed(t, n): true}
	once := func(n api.Node) {
		t.Helper()
		h := hashed(t, n)
		if seen[h] {
			t.Fatalf("the digest of %s was seen already", tell(n))
		}
		seen[h] = true
	}
	for i := range n.Parents {
		for at := range digested * 8 {
			b := []byte(n.Parents[i])
			b[at/8] ^= 1 << (at % 8)
			once(with(n, func(n *api.Node) { n.Parents[i] = string(b) }))
		}
	}
	for many := range parentsMost + 1 {
		if many != 2 {
			once(with(n, func(n *api.Node) { n.Parents = rise(many) }))
		}
	}
	once(with(n, func(n *api.Node) { n.Parents[0], n.Parents[1] = n.Parents[1], n.Parents[0] }))
	once(with(n, func(n *api.Node) { n.Author = 3 }))
	once(with(n, func(n *api.Node) { n.Author, n.Op.At.Who = 3, 3 }))
}

// 11.1: a node that may not be has the digest of what it would be in bytes.
func TestHashMayNotBe(t *testing.T) {
	hashed(t, api.Node{})
	for _, c := range badNodes() {
		hashed(t, c.n)
	}
}

// 11.1: a node is of another purpose than its operation.
func TestHashPurpose(t *testing.T) {
	for _, n := range goodNodes() {
		if h := node.Hash(n); len(h) != digested || h == op.Hash(n.Op) || h == taggedOf("O", bodyOf(n)) || h == sumOf(bodyOf(n)) {
			t.Fatalf("Hash(%s): %x", tell(n), h)
		}
	}
}

// 11.1: each that may be is read again as it was, and unlike ones have unlike bytes.
func TestEncodeDecode(t *testing.T) {
	seen := make(map[string]api.Node)
	for _, n := range goodNodes() {
		s, e := node.Encode(n)
		if s != bytesOf(n) || e != api.OK {
			t.Fatalf("Encode(%s): %q, %d", tell(n), s, int(e))
		}
		if other, ok := seen[s]; ok && !equal(other, n) {
			t.Fatalf("%s and %s have the same bytes", tell(n), tell(other))
		}
		seen[s] = n
		decoded(t, s, n)
		if again, _ := node.Decode(s); !node.Same(again, n) || node.Hash(again) != node.Hash(n) {
			t.Fatalf("%s is another one when it is read", tell(n))
		}
	}
}

// 11.1: Check's error, and no bytes with it.
func TestEncodeMayNotBe(t *testing.T) {
	for _, c := range badNodes() {
		checked(t, c.n, c.e)
		for _, tag := range badTags() {
			checked(t, with(c.n, func(n *api.Node) { n.Tag = tag }), api.ErrForm)
		}
	}
}

// 11.1: bytes that end at each place.
func TestDecodeCut(t *testing.T) {
	undecoded(t, "", api.ErrCut)
	for _, n := range goodNodes() {
		s := bytesOf(n)
		for i := range len(s) {
			undecoded(t, s[:i], api.ErrCut)
		}
	}
}

// 11.1: a number of parents that is greater than how many there are.
func TestDecodeFewParents(t *testing.T) {
	for told := range parentsMost + 1 {
		ahead := fmt.Sprintf("05%02x", told)
		for there := range told {
			undecoded(t, ahead+strings.Join(rise(there), ""), api.ErrCut)
			undecoded(t, ahead+strings.Join(rise(there), "")+digest('d')[1:], api.ErrCut)
		}
	}
}

// 11.1: bytes that go on behind the node.
func TestDecodeMore(t *testing.T) {
	for _, n := range goodNodes() {
		s := bytesOf(n)
		for _, more := range []string{"0", "\x00", "zz", digest('h'), s} {
			undecoded(t, s+more, api.ErrMore)
		}
	}
}

// 11.1: more parents than may be, whether they are there or not.
func TestDecodeManyParents(t *testing.T) {
	for told := range 256 {
		n := api.Node{Author: 5, Parents: rise(told), Op: kinds(5)[1], Tag: digest('t')}
		s := bytesOf(n)
		if told <= parentsMost {
			decoded(t, s, n)
			continue
		}
		for _, bytes := range []string{s, s + "more", s[:len(s)-1], s[:4], s[:5], s[:4] + digest('p'), s[:4] + strings.Join(rise(8), ""), s[:4] + s[len(s)-100:]} {
			undecoded(t, bytes, api.ErrMany)
		}
	}
}

// 11.1: letters that are no digits, in the author, in the number of parents, and in the operation.
func TestDecodeLetters(t *testing.T) {
	for _, o := range kinds(5) {
		for _, parents := range [][]string{nil, rise(1), rise(parentsMost)} {
			s := bytesOf(api.Node{Author: 5, Parents: parents, Op: o, Tag: digest('t')})
			from := 4 + digested*len(parents)
			for _, i := range []int{0, 1, 2, 3, from, from + 1, from + 2, from + 17, from + 18, from + 19, from + 20, from + 35} {
				for c := range 256 {
					if strings.IndexByte("0123456789abcdef", byte(c)) < 0 {
						undecoded(t, s[:i]+letter(c)+s[i+1:], api.ErrForm)
					}
				}
			}
		}
	}
}

// 11.1: parents and tags are any bytes, at each place.
func TestDecodeAnyBytes(t *testing.T) {
	for c := range 256 {
		for i := range digested {
			b := []byte(digest('m'))
			b[i] = byte(c)
			n := some()
			n.Parents, n.Tag = []string{string(b)}, string(b)
			decoded(t, bytesOf(n), n)
		}
	}
}

// 11.1: an author whose time it is not, each byte.
func TestDecodeAuthors(t *testing.T) {
	for who := range keysMost {
		for _, o := range kinds(who) {
			n := api.Node{Parents: rise(1), Op: o, Tag: digest('t')}
			for author := range 256 {
				n.Author = author
				if author == who {
					decoded(t, bytesOf(n), n)
				} else {
					undecoded(t, bytesOf(n), api.ErrForm)
				}
			}
		}
	}
}

// 11.1: bytes of parents that do not rise.
func TestDecodeParents(t *testing.T) {
	for _, parents := range badParents() {
		short := slices.ContainsFunc(parents, func(h string) bool { return len(h) != digested })
		if short || len(parents) > parentsMost {
			continue
		}
		for _, o := range kinds(2) {
			undecoded(t, bytesOf(api.Node{Author: 2, Parents: parents, Op: o, Tag: digest('t')}), api.ErrForm)
		}
	}
}

// 11.1: bytes of an operation that may not be.
func TestDecodeOperation(t *testing.T) {
	at := api.Stamp{Count: 3, Who: 2}
	for _, parents := range goodParents() {
		for _, c := range []wrongOp{
			{api.Op{Kind: 1, At: at, Thing: 51, Name: "a"}, api.ErrOp},
			{api.Op{Kind: 2, At: at, Thing: 20, Parent: api.Trash, Name: "a"}, api.ErrOp},
			{api.Op{Kind: 2, At: at, Thing: 20, Parent: 20, Name: "a"}, api.ErrOp},
			{api.Op{Kind: 2, At: at, Thing: 20}, api.ErrOp},
			{api.Op{Kind: 3, At: at, Thing: 15}, api.ErrOp},
			{api.Op{Kind: 0, At: at, Thing: 20}, api.ErrOp},
			{api.Op{Kind: 5, At: at, Thing: 20}, api.ErrOp},
			{api.Op{Kind: 255, At: at, Thing: 20}, api.ErrOp},
			{api.Op{Kind: 3, Thing: 20}, api.ErrStamp},
			{api.Op{Kind: 3, At: api.Stamp{Count: greatest + 1, Who: 2}, Thing: 20}, api.ErrStamp},
			{api.Op{Kind: 3, At: api.Stamp{Count: 3, Who: 16}, Thing: 20}, api.ErrStamp},
			{api.Op{Kind: 2, At: at, Thing: 20, Name: strings.Repeat("a", nameMost+1)}, api.ErrMany},
			{api.Op{Kind: 4, At: at, Thing: 20, Digest: digest('d'), Size: fileMost + 1}, api.ErrMany},
		} {
			undecoded(t, bytesOf(api.Node{Author: 2, Parents: parents, Op: c.o, Tag: digest('t')}), c.e)
		}
	}
	s := bytesOf(api.Node{Author: 2, Op: kinds(2)[0], Tag: digest('t')})
	undecoded(t, s[:4+36]+"x"+s[4+37:], api.ErrForm)
}

// 11.1: which error it is where several apply: the reader's first one, ErrMore, Check's.
func TestDecodeFirst(t *testing.T) {
	const good = "03" + "0000000000000003" + "02" + "0000000000000014" // a thing goes, at 3 by 2
	const away = "03" + "0000000000000003" + "02" + "000000000000000f" // no thing
	const late = "03" + "0000000000000003" + "10" + "0000000000000014" // nobody's time
	a, b, tag := digest('a'), digest('b'), digest('t')
	for _, c := range []struct {
		s    string
		want api.Errno
	}{
		// among the reader's: the one that stands first
		{"z", api.ErrCut},
		{"zz", api.ErrForm},
		{"zz" + "09", api.ErrForm},
		{"02" + "z", api.ErrCut},
		{"02" + "0z", api.ErrForm},
		{"02" + "09", api.ErrMany},
		{"02" + "ff" + late, api.ErrMany},
		{"02" + "08" + late, api.ErrCut},
		{"02" + "01" + a[1:] + late + tag, api.ErrForm}, // a digest takes the next letter, too
		{"02" + "00" + late[:20] + "z", api.ErrStamp},
		{"02" + "00" + "zz" + late[2:] + tag, api.ErrForm},
		{"02" + "00" + late, api.ErrStamp},
		{"02" + "00" + away, api.ErrOp},
		{"02" + "00" + away + tag[1:], api.ErrOp},
		{"02" + "00" + good, api.ErrCut},
		{"02" + "00" + good + tag[1:], api.ErrCut},
		// the reader's ahead of ErrMore
		{"02" + "00" + away + tag + "more", api.ErrOp},
		{"02" + "00" + late + tag + "more", api.ErrStamp},
		{"02" + "09" + good + tag + "more", api.ErrMany},
		{"0g" + "00" + good + tag + "more", api.ErrForm},
		// the reader's ahead of Check's
		{"03" + "00" + good + tag[1:], api.ErrCut},
		{"03" + "00" + away + tag, api.ErrOp},
		{"03" + "00" + late + tag, api.ErrStamp},
		{"10" + "00" + late + tag, api.ErrStamp},
		{"02" + "02" + b + a + good + tag[1:], api.ErrCut},
		{"02" + "02" + b + a + away + tag, api.ErrOp},
		{"02" + "02" + a + a + late + tag, api.ErrStamp},
		{"02" + "09" + strings.Repeat(a, 9) + good + tag, api.ErrMany},
		// ErrMore ahead of Check's
		{"03" + "00" + good + tag + "m", api.ErrMore},
		{"ff" + "00" + good + tag + "m", api.ErrMore},
		{"02" + "02" + b + a + good + tag + "more", api.ErrMore},
		{"02" + "02" + a + a + good + tag + tag, api.ErrMore},
		// and that where nothing else is wrong
		{"02" + "02" + a + b + good + tag + "\x00", api.ErrMore},
		// Check's
		{"03" + "00" + good + tag, api.ErrForm},
		{"02" + "02" + b + a + good + tag, api.ErrForm},
		{"02" + "02" + a + a + good + tag, api.ErrForm},
		{"03" + "02" + b + a + good + tag, api.ErrForm},
	} {
		if n, e := node.Decode(c.s); !none(n) || e != c.want {
			t.Errorf("Decode(%q): %s, %d; not %d", c.s, tell(n), int(e), int(c.want))
		}
	}
	decoded(t, "02"+"02"+a+b+good+tag, api.Node{Author: 2, Parents: []string{a, b}, Op: api.Op{Kind: 3, At: api.Stamp{Count: 3, Who: 2}, Thing: 20}, Tag: tag})
}

// number is a byte at the beginning of others, and its error, by the words of layer 3.
func number(s string) (int, api.Errno) {
	if len(s) < 2 {
		return 0, api.ErrCut
	}
	n, e := strconv.ParseUint(s[:2], 16, 8)
	if e != nil || strings.ToLower(s[:2]) != s[:2] {
		return 0, api.ErrForm
	}
	return int(n), api.OK
}

// errorOf is Decode's error by the chapter's words; the operation is taken by the layer below.
func errorOf(s string) api.Errno {
	author, e := number(s)
	if e != api.OK {
		return e
	}
	many, e := number(s[2:])
	if e != api.OK {
		return e
	}
	if many > parentsMost {
		return api.ErrMany
	}
	if len(s) < 4+digested*many {
		return api.ErrCut
	}
	r := wire.NewReader(s[4+digested*many:])
	o := op.Take(r)
	switch {
	case r.Err() != api.OK:
		return r.Err()
	case r.Left() < digested:
		return api.ErrCut
	case r.Left() > digested:
		return api.ErrMore
	case o.At.Who != author:
		return api.ErrForm
	}
	for i := 1; i < many; i++ {
		if s[4+digested*(i-1):4+digested*i] >= s[4+digested*i:4+digested*(i+1)] {
			return api.ErrForm
		}
	}
	return api.OK
}

// changed is bytes with something changed, taken away or put in, mostly where digits stand.
func changed(draw func(int) int, b []byte) []byte {
	for range 1 + draw(2) {
		i := draw(len(b))
		if draw(3) == 0 {
			i = draw(4)
		}
		switch draw(8) {
		case 0:
			b = slices.Delete(b, i, i+1)
		case 1:
			b = slices.Insert(b, i, byte(draw(256)))
		default:
			b[i] = "0123456789abcdefyn\x00zA"[draw(21)]
		}
	}
	return b
}

// 11.1: bytes with something changed are a node of just these bytes, or none, with the first error.
func TestDecodeChanged(t *testing.T) {
	draw, all, many := drawer(12), goodNodes(), map[api.Errno]int{}
	for range 60000 {
		s := string(changed(draw, []byte(bytesOf(all[draw(len(all))]))))
		want := errorOf(s)
		many[want]++
		if want != api.OK {
			undecoded(t, s, want)
			continue
		}
		n, e := node.Decode(s)
		if e != api.OK || node.Check(n) != api.OK || bytesOf(n) != s {
			t.Fatalf("Decode(%q): %s, %d", s, tell(n), int(e))
		}
	}
	for _, e := range []api.Errno{api.OK, api.ErrCut, api.ErrMore, api.ErrMany, api.ErrForm, api.ErrOp, api.ErrStamp} {
		if many[e] < 100 {
			t.Errorf("only %d of the changed bytes came to %d", many[e], int(e))
		}
	}
}

// R1: any bytes at all.
func TestDecodeAnything(t *testing.T) {
	draw := drawer(5)
	for range 20000 {
		b := make([]byte, draw(400))
		for i := range b {
			b[i] = "0123456789abcdef\x00zy"[draw(19)]
		}
		s := string(b)
		if n, e := node.Decode(s); e != errorOf(s) || e != api.OK && !none(n) {
			t.Fatalf("Decode(%q): %s, %d; not %d", s, tell(n), int(e), int(errorOf(s)))
		}
	}
	undecoded(t, strings.Repeat("0", 1<<20), api.ErrStamp)
	undecoded(t, strings.Repeat("z", 1<<20), api.ErrForm)
}

// R2: what Decode answers is the caller's.
func TestDecodeIsTheCallers(t *testing.T) {
	s := bytesOf(some())
	n, _ := node.Decode(s)
	n.Parents[0] = "other"
	_ = append(n.Parents[:1], "other")
	decoded(t, s, some())
}
