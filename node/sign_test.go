package node_test

import (
	"arbour/api"
	"arbour/mac"
	"arbour/node"
	"encoding/hex"
	"math"
	"slices"
	"testing"
)

// signed wants a node with the tag of its author's key of a seed, and that it is else as it was.
func signed(t *testing.T, seed string, r *mac.Ring, n api.Node) api.Node {
	t.Helper()
	given := copyOf(n)
	got, e := node.Sign(r, n)
	want := with(n, func(n *api.Node) { n.Tag = tagOf(seed, n.Author, hashOf(*n)) })
	if e != api.OK || !equal(got, want) {
		t.Fatalf("Sign(%s): %s, %d; not %s", tell(n), tell(got), int(e), tell(want))
	}
	if !equal(n, given) {
		t.Fatalf("Sign changed %s", tell(given))
	}
	return got
}

// unsigned wants an error, and no node.
func unsigned(t *testing.T, r *mac.Ring, n api.Node, want api.Errno) {
	t.Helper()
	if got, e := node.Sign(r, n); e != want || !none(got) {
		t.Fatalf("Sign(%s): %s, %d; not %d", tell(n), tell(got), int(e), int(want))
	}
}

// good wants what Good answers, and that it answers so again.
func good(t *testing.T, r *mac.Ring, n api.Node, want bool) {
	t.Helper()
	given := copyOf(n)
	if node.Good(r, n) != want || node.Good(r, n) != want {
		t.Fatalf("Good(%s) is not %t", tell(n), want)
	}
	if !equal(n, given) {
		t.Fatalf("Good changed %s", tell(given))
	}
}

// 11.1: tags that are known.
func TestSignKnown(t *testing.T) {
	r := ring(t, "s", keysMost)
	for _, c := range knowns() {
		n, e := node.Sign(r, c.n)
		if got := hex.EncodeToString([]byte(n.Tag)); got != c.tag || e != api.OK {
			t.Errorf("the tag of %q: %s, %d; not %s", c.body, got, int(e), c.tag)
		}
	}
}

// 11.1: what is signed may be, has the tag of its digest under its author's key, and is else as it was.
func TestSign(t *testing.T) {
	for _, seed := range []string{"seed", ""} {
		r := ring(t, seed, keysMost)
		for _, n := range goodNodes() {
			got := signed(t, seed, r, n)
			checked(t, got, api.OK)
			good(t, r, got, true)
			if want, e := r.Tag(n.Author, node.Hash(n)); got.Tag != want || e != api.OK {
				t.Fatalf("the tag of %s is %x, not %x", tell(n), got.Tag, want)
			}
			s, _ := node.Encode(got)
			if again, e := node.Decode(s); e != api.OK || !node.Good(r, again) {
				t.Fatalf("%s is not good when it is read", tell(got))
			}
		}
	}
}

// 11.1: a tag that was there before does not matter, nor does its length.
func TestSignAgain(t *testing.T) {
	r := ring(t, "seed", keysMost)
	for _, n := range goodNodes() {
		want := signed(t, "seed", r, n)
		for _, tag := range slices.Concat(goodTags(), badTags(), []string{want.Tag}) {
			if got := signed(t, "seed", r, with(n, func(n *api.Node) { n.Tag = tag })); !equal(got, want) {
				t.Fatalf("Sign(%s) with the tag %q: another one", tell(n), tag)
			}
		}
	}
}

// 11.1: rings of all lengths sign for those whose key they have.
func TestSignNone(t *testing.T) {
	for keys := range keysMost + 1 {
		r := ring(t, "seed", keys)
		for who := range keysMost {
			for _, o := range kinds(who) {
				n := api.Node{Author: who, Parents: rise(3), Op: o}
				if who < keys {
					good(t, r, signed(t, "seed", r, n), true)
				} else {
					unsigned(t, r, n, api.ErrNone)
				}
			}
		}
	}
}

// 11.1: a nil ring has no keys, as that of none, and one that nobody made.
func TestSignNoRing(t *testing.T) {
	for _, r := range []*mac.Ring{nil, ring(t, "seed", 0), {}} {
		for _, n := range goodNodes() {
			unsigned(t, r, n, api.ErrNone)
		}
		for _, c := range badNodes() {
			unsigned(t, r, c.n, api.ErrNone)
		}
		unsigned(t, r, api.Node{}, api.ErrNone)
	}
}

// 11.1: authors that have no key anywhere; ErrNone goes ahead of Check's error.
func TestSignNobody(t *testing.T) {
	r := ring(t, "seed", keysMost)
	for _, who := range []int{-1, 16, 17, 255, 256, 258, 1<<32 + 2, math.MinInt, math.MinInt + 2, math.MaxInt} {
		unsigned(t, r, with(some(), func(n *api.Node) { n.Author = who }), api.ErrNone)
		unsigned(t, r, with(some(), func(n *api.Node) { n.Author, n.Op.At.Who = who, who }), api.ErrNone)
		unsigned(t, r, api.Node{Author: who, Parents: rise(9)}, api.ErrNone)
	}
	short := ring(t, "seed", 2)
	for _, c := range badNodes() {
		if c.n.Author >= 2 {
			unsigned(t, short, c.n, api.ErrNone)
		}
	}
}

// 11.1: a node that may not be is Check's error of the tagged one.
func TestSignMayNotBe(t *testing.T) {
	r := ring(t, "seed", keysMost)
	unsigned(t, r, api.Node{}, api.ErrStamp)
	for _, c := range badNodes() {
		want := c.e
		if c.n.Author < 0 || c.n.Author >= keysMost {
			want = api.ErrNone
		}
		unsigned(t, r, c.n, want)
		// The tag that was there is not the one that is looked at.
		for _, tag := range badTags() {
			unsigned(t, r, with(c.n, func(n *api.Node) { n.Tag = tag }), want)
		}
	}
}

// R2: what Sign answers has a list of its own.
func TestSignIsTheCallers(t *testing.T) {
	r := ring(t, "seed", keysMost)
	n := some()
	n.Parents = append(make([]string, 0, 10), rise(3)...)
	got := signed(t, "seed", r, n)
	_ = append(got.Parents, "behind")
	if behind := n.Parents[:4][3]; behind != "" {
		t.Errorf("behind the parents that were handed in stands %q", behind)
	}
	got.Parents[0] = "other"
	if !slices.Equal(n.Parents, rise(3)) {
		t.Error("the parents that were handed in are others")
	}
	got = signed(t, "seed", r, n)
	n.Parents[1] = "other"
	if !slices.Equal(got.Parents, rise(3)) || !node.Good(r, got) {
		t.Error("the parents of what was signed are others")
	}
}

// 11.1: another tag, by any bit, of any length, of anything else.
func TestGoodTag(t *testing.T) {
	r := ring(t, "seed", keysMost)
	n := signed(t, "seed", r, some())
	for at := range digested * 8 {
		b := []byte(n.Tag)
		b[at/8] ^= 1 << (at % 8)
		good(t, r, with(n, func(n *api.Node) { n.Tag = string(b) }), false)
	}
	others := slices.Concat(goodTags(), badTags(), []string{
		n.Tag[:31], n.Tag[1:], n.Tag + "\x00", n.Tag + n.Tag, node.Hash(n), hex.EncodeToString([]byte(n.Tag)),
		tagOf("seed", 2, bodyOf(n)), tagOf("seed", 2, bytesOf(n)), tagOf("seed", 2, ""), tagOf("seeds", 2, hashOf(n)),
	})
	for who := range keysMost {
		if who != n.Author {
			others = append(others, tagOf("seed", who, hashOf(n)))
		}
	}
	for _, tag := range others {
		good(t, r, with(n, func(n *api.Node) { n.Tag = tag }), false)
	}
	good(t, r, n, true)
}

// 11.1: the tag of a node is not that of one with another author, another operation, other parents.
func TestGoodOthers(t *testing.T) {
	r := ring(t, "seed", keysMost)
	for _, o := range kinds(2) {
		n := signed(t, "seed", r, api.Node{Author: 2, Parents: rise(3), Op: o})
		for _, who := range badAuthors(2) {
			good(t, r, with(n, func(n *api.Node) { n.Author = who }), false)
			good(t, r, with(n, func(n *api.Node) { n.Author, n.Op.At.Who = who, who }), false)
		}
		for _, other := range slices.Concat(otherOps(o), kinds(2), moreOps(2)) {
			good(t, r, with(n, func(n *api.Node) { n.Op = other }), other == o)
		}
		for _, parents := range slices.Concat(otherParents(n.Parents), goodParents(), badParents()) {
			good(t, r, with(n, func(n *api.Node) { n.Parents = parents }), slices.Equal(parents, n.Parents))
		}
	}
}

// 11.1: of many signed nodes each is good with its own tag alone.
func TestGoodPairs(t *testing.T) {
	r := ring(t, "seed", keysMost)
	all := []api.Node{}
	for i, n := range goodNodes() {
		if i%5 == 0 {
			all = append(all, signed(t, "seed", r, n))
		}
	}
	for _, a := range all {
		for _, b := range all {
			want := node.Hash(a) == node.Hash(b)
			good(t, r, with(a, func(n *api.Node) { n.Tag = b.Tag }), want)
		}
	}
}

// 11.1: a node that may not be is not good, even with the tag of its digest.
func TestGoodMayNotBe(t *testing.T) {
	r := ring(t, "seed", keysMost)
	good(t, r, api.Node{}, false)
	for _, c := range append(badNodes(), wrong{}) {
		n := c.n
		n.Tag = tagOf("seed", n.Author, node.Hash(n))
		if n.Author >= 0 && n.Author < keysMost && !r.Check(n.Author, node.Hash(n), n.Tag) {
			t.Fatalf("the tag of %s is not that of its digest", tell(n))
		}
		good(t, r, n, false)
	}
}

// 11.1: a ring without the key, a nil one, one of another seed; one of another length that has the key.
func TestGoodRings(t *testing.T) {
	full := ring(t, "seed", keysMost)
	for who := range keysMost {
		n := signed(t, "seed", full, api.Node{Author: who, Parents: rise(who % 9), Op: kinds(who)[who%4]})
		for keys := range keysMost + 1 {
			good(t, ring(t, "seed", keys), n, who < keys)
			good(t, ring(t, "another seed", keys), n, false)
		}
		good(t, nil, n, false)
		good(t, &mac.Ring{}, n, false)
	}
}
