package node_test

import (
	"arbour/api"
	"arbour/mac"
	"arbour/node"
	"crypto/sha512"
	"fmt"
	"math"
	"slices"
	"strings"
	"testing"
)

// The document's numbers, as its words and limits say them.
const (
	parentsMost = 8
	keysMost    = 16
	digested    = 32
	nameMost    = 32
	fileMost    = 8192
	greatest    = 1<<48 - 1
	last        = greatest*16 + 15 // the last thing that may be made
)

// The limits that the chapter's numbers hang on.
func TestLimits(t *testing.T) {
	if api.MaxParents != parentsMost || api.HashBytes != digested || api.MaxReplicas != keysMost {
		t.Error("package api has other limits")
	}
	if api.MaxName != nameMost || api.MaxFile != fileMost || api.MaxCount != greatest {
		t.Error("package api has other limits of operations")
	}
}

// drawer draws numbers below n, the same ones at each run.
func drawer(seed uint64) func(n int) int {
	return func(n int) int {
		seed = seed*6364136223846793005 + 1442695040888963407
		return int(seed >> 33 % uint64(n))
	}
}

// letter is a text of one byte.
func letter(c int) string { return string([]byte{byte(c)}) }

// digest is bytes as long as a digest, all of them c.
func digest(c byte) string { return strings.Repeat(letter(int(c)), digested) }

// rise is n digests that rise; cut or filled up by a byte they would rise, too.
func rise(n int) []string {
	l := make([]string, n)
	for i := range l {
		l[i] = fmt.Sprintf("%06d is the number of digests", i) + "!"
	}
	return l
}

// raw is a number of 4 bytes as sha lays it.
func raw(n int) string { return string([]byte{byte(n >> 24), byte(n >> 16), byte(n >> 8), byte(n)}) }

// sumOf is the digest of bytes by the words of layer 1.
func sumOf(s string) string {
	h := sha512.Sum512([]byte(s))
	return string(h[:digested])
}

// taggedOf is the digest of parts for a purpose by the words of layer 1.
func taggedOf(purpose string, parts ...string) string {
	s := purpose + raw(len(parts))
	for _, p := range parts {
		s += raw(len(p))
	}
	return sumOf(s + strings.Join(parts, ""))
}

// turned is a key of at most 128 bytes, filled up and turned, by the words of layer 2.
func turned(key string, by byte) string {
	b := make([]byte, 128)
	copy(b, key)
	for i := range b {
		b[i] ^= by
	}
	return string(b)
}

// tagOf is the tag of a text under the key of a number of a seed, by the words of layer 2.
func tagOf(seed string, i int, s string) string {
	key := taggedOf("R", seed, letter(i))
	return sumOf(turned(key, 0x5c) + sumOf(turned(key, 0x36)+s))
}

// opBytes is the bytes of an operation by the words of layer 5.
func opBytes(o api.Op) string {
	s := fmt.Sprintf("%02x%016x%02x%016x", byte(o.Kind), o.At.Count, byte(o.At.Who), o.Thing)
	if o.Kind == 1 {
		s += map[bool]string{true: "y", false: "n"}[o.Dir]
	}
	switch o.Kind {
	case 1, 2:
		s += fmt.Sprintf("%016x%08x", o.Parent, len(o.Name)) + o.Name
	case 4:
		s += long(o.Digest) + fmt.Sprintf("%08x", uint32(max(o.Size, 0)))
	}
	return s
}

// long is bytes cut to a digest's length, or filled up with noughts, by the words of layer 3.
func long(s string) string { return (s + digest(0))[:digested] }

// bodyOf is a node's bytes without the tag by the chapter's words.
func bodyOf(n api.Node) string {
	s := fmt.Sprintf("%02x%02x", byte(n.Author), byte(len(n.Parents)))
	for _, h := range n.Parents {
		s += long(h)
	}
	return s + opBytes(n.Op)
}

// bytesOf is a node's bytes by the chapter's words.
func bytesOf(n api.Node) string { return bodyOf(n) + n.Tag }

// hashOf is a node's digest by the chapter's words.
func hashOf(n api.Node) string { return taggedOf("D", bodyOf(n)) }

// equal is whether two nodes have the same four things.
func equal(a, b api.Node) bool {
	if len(a.Parents) != len(b.Parents) {
		return false
	}
	for i := range a.Parents {
		if a.Parents[i] != b.Parents[i] {
			return false
		}
	}
	return a.Author == b.Author && a.Op == b.Op && a.Tag == b.Tag
}

// none is whether a node has nothing.
func none(n api.Node) bool { return equal(n, api.Node{}) }

// copyOf is a node with a list of its own.
func copyOf(n api.Node) api.Node {
	n.Parents = append([]string{}, n.Parents...)
	return n
}

// with is a node in which something is another thing.
func with(n api.Node, change func(n *api.Node)) api.Node {
	n = copyOf(n)
	change(&n)
	return n
}

// tell is a node as a short text.
func tell(n api.Node) string { return fmt.Sprintf("%.300q", fmt.Sprint(n)) }

// ring is so many keys of a seed.
func ring(t *testing.T, seed string, n int) *mac.Ring {
	t.Helper()
	r, e := mac.NewRing(seed, n)
	if e != api.OK {
		t.Fatalf("NewRing(%q, %d): %d", seed, n, int(e))
	}
	return r
}

// kinds is an operation of each kind that may be, by somebody.
func kinds(who int) []api.Op {
	at := api.Stamp{Count: 3, Who: who}
	return []api.Op{
		{Kind: api.OpCreate, At: at, Thing: 48 + uint64(who), Parent: 33, Name: "a", Dir: true},
		{Kind: api.OpMove, At: at, Thing: 20, Parent: 33, Name: "b"},
		{Kind: api.OpDelete, At: at, Thing: 20},
		{Kind: api.OpContent, At: at, Thing: 20, Digest: digest('d'), Size: 7},
	}
}

// moreOps is operations at the edges of what may be, by somebody.
func moreOps(who int) []api.Op {
	at, end := api.Stamp{Count: 1, Who: who}, api.Stamp{Count: greatest, Who: who}
	return append(kinds(who), []api.Op{
		{Kind: api.OpCreate, At: at, Thing: 16 + uint64(who), Name: "\x00"},
		{Kind: api.OpCreate, At: end, Thing: last - 15 + uint64(who), Parent: 32, Name: strings.Repeat("\xff", nameMost)},
		{Kind: api.OpMove, At: at, Thing: last, Name: strings.Repeat("0", nameMost)},
		{Kind: api.OpMove, At: end, Thing: 16, Parent: last, Name: "/"},
		{Kind: api.OpDelete, At: end, Thing: last},
		{Kind: api.OpContent, At: at, Thing: 16, Digest: digest(0)},
		{Kind: api.OpContent, At: end, Thing: last, Digest: digest(255), Size: fileMost},
	}...)
}

// goodParents is lists of parents that may be: from none to as many as may be, in the order of their bytes.
func goodParents() [][]string {
	l := [][]string{nil, {}}
	for n := range parentsMost + 1 {
		l = append(l, rise(n))
	}
	ahead, behind := "m"+digest(255)[1:], "n"+digest(0)[1:]
	return append(l,
		[]string{digest(0)}, []string{digest(255)}, []string{digest(0), digest(255)},
		[]string{digest(0x7f), digest(0x80)}, // bytes, not numbers with a sign
		[]string{ahead, behind},              // the first byte counts most
		[]string{digest('x')[1:] + "\x7f", digest('x')[1:] + "\x80"},
		[]string{"x" + digest('a')[1:], "x" + digest('b')[1:], "y" + digest('a')[1:]},
	)
}

// goodTags is any bytes as long as a tag.
func goodTags() []string {
	return []string{digest('t'), digest(0), digest(255), sumOf("tag"), digest('0')}
}

// some is a node that may be: two parents, a move by 2.
func some() api.Node {
	return api.Node{Author: 2, Parents: rise(2), Op: kinds(2)[1], Tag: digest('t')}
}

// goodNodes is nodes that may be, at the edges of all that they have; no two are alike but for the lists nil and empty.
func goodNodes() []api.Node {
	var all []api.Node
	for who := range keysMost {
		for _, o := range moreOps(who) {
			all = append(all, api.Node{Author: who, Parents: rise(who % (parentsMost + 1)), Op: o, Tag: digest(byte(who))})
		}
	}
	for _, parents := range goodParents() {
		for _, o := range kinds(5) {
			all = append(all, api.Node{Author: 5, Parents: parents, Op: o, Tag: digest('p')})
		}
	}
	for _, tag := range goodTags() {
		all = append(all, with(some(), func(n *api.Node) { n.Tag = tag }))
	}
	return all
}

// badParents is lists of parents that may not be.
func badParents() [][]string {
	l := [][]string{
		{digest('b'), digest('a')}, {digest('a'), digest('a')}, {digest(0), digest(0)}, {digest(0x80), digest(0x7f)},
		{digest('x')[1:] + "b", digest('x')[1:] + "a"}, {"n" + digest(0)[1:], "m" + digest(255)[1:]},
	}
	for _, n := range []int{9, 10, 16, 17, 255, 256, 257, 256 + parentsMost, 4096} {
		l = append(l, rise(n))
	}
	for many := 2; many <= parentsMost; many++ {
		for i := range many - 1 {
			falls, twice := rise(many), rise(many)
			falls[i], falls[i+1] = falls[i+1], falls[i]
			twice[i+1] = twice[i]
			l = append(l, falls, twice)
		}
	}
	for _, many := range []int{1, 2, 3, parentsMost} {
		for i := range many {
			for _, bytes := range []int{0, 1, 31, 33, 64, 256 + digested} {
				// It stands in its place as far as it can, so that the length alone is wrong.
				parents := rise(many)
				parents[i] = (parents[i] + strings.Repeat("\x00", 300))[:bytes]
				l = append(l, parents)
			}
		}
	}
	return append(l, []string{"", ""}, slices.Repeat([]string{digest('a')}, 9))
}

// badTags is bytes that are too few or too many for a tag.
func badTags() []string {
	return []string{"", "t", digest('t')[1:], digest('t') + "t", digest('t') + "\x00", digest('t') + digest('t'), strings.Repeat("t", 256+digested)}
}

// wrongOp is an operation that may not be, with its error.
type wrongOp struct {
	o api.Op
	e api.Errno
}

// badOps is operations of somebody that may not be.
func badOps(who int) []wrongOp {
	l := []wrongOp{{api.Op{}, api.ErrStamp}, {api.Op{At: api.Stamp{Count: 3, Who: who}}, api.ErrOp}}
	add := func(o api.Op, e api.Errno, change func(o *api.Op)) {
		change(&o)
		l = append(l, wrongOp{o, e})
	}
	for _, o := range kinds(who) {
		for _, count := range []uint64{0, greatest + 1, math.MaxUint64} {
			add(o, api.ErrStamp, func(o *api.Op) { o.At.Count = count })
		}
		for _, kind := range []int{0, 5, -1, 256 + o.Kind, math.MaxInt} {
			add(o, api.ErrOp, func(o *api.Op) { o.Kind = kind })
		}
		for _, thing := range []uint64{api.Root, api.Trash, 15, last + 1} {
			add(o, api.ErrOp, func(o *api.Op) { o.Thing = thing })
		}
		for _, size := range []int{-1, fileMost + 1, 1<<32 + 7} {
			add(o, api.ErrOp, func(o *api.Op) { o.Size = size })
		}
		add(o, api.ErrOp, func(o *api.Op) { o.Parent = api.Trash })
		add(o, api.ErrOp, func(o *api.Op) { o.Name = strings.Repeat("a", nameMost+1) })
		add(o, api.ErrOp, func(o *api.Op) { o.Digest = digest('d') + "d" })
	}
	add(kinds(who)[0], api.ErrOp, func(o *api.Op) { o.Thing++ })
	return l
}

// badAuthors is those who are not somebody, some with his lowest byte.
func badAuthors(who int) []int {
	l := []int{-1, 16, 17, 255, 256, 256 + who, who - 256, 1<<32 + who, math.MinInt, math.MinInt + who, math.MaxInt}
	for i := range keysMost {
		if i != who {
			l = append(l, i)
		}
	}
	return l
}

// wrong is a node that may not be, with its error.
type wrong struct {
	n api.Node
	e api.Errno
}

// badNodes is nodes with one thing that may not be, but for the tag's length.
func badNodes() []wrong {
	var l []wrong
	for _, n := range []api.Node{some(), {Author: 15, Op: kinds(15)[0], Tag: digest('u')}, {Parents: rise(parentsMost), Op: kinds(0)[3], Tag: digest('u')}} {
		for _, parents := range badParents() {
			l = append(l, wrong{with(n, func(n *api.Node) { n.Parents = parents }), api.ErrForm})
		}
		for _, c := range badOps(n.Author) {
			l = append(l, wrong{with(n, func(n *api.Node) { n.Op = c.o }), c.e})
		}
		for _, who := range badAuthors(n.Author) {
			l = append(l, wrong{with(n, func(n *api.Node) { n.Author = who }), api.ErrForm})
		}
	}
	return l
}

// checked wants what Check answers, and Encode with it, and that the node stays as it is.
func checked(t *testing.T, n api.Node, want api.Errno) {
	t.Helper()
	given := copyOf(n)
	for range 2 {
		if e := node.Check(n); e != want {
			t.Fatalf("Check(%s): %d, not %d", tell(n), int(e), int(want))
		}
		s, e := node.Encode(n)
		if e != want || want == api.OK && s != bytesOf(n) || want != api.OK && s != "" {
			t.Fatalf("Encode(%s): %.200q, %d; not %d", tell(n), s, int(e), int(want))
		}
	}
	if !equal(n, given) {
		t.Fatalf("%s was changed", tell(given))
	}
}
