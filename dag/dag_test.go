package dag_test

import (
	"arbour/api"
	"arbour/dag"
	"arbour/mac"
	"arbour/node"
	"encoding/hex"
	"slices"
	"strings"
	"testing"
)

// refused wants an error of each of these bytes, whatever was there, and that nothing changes.
func (w *twin) refused(t *testing.T, want api.Errno, all ...string) {
	t.Helper()
	before := []any{w.d.Order(), w.d.Heads(), w.d.Missing(), w.d.Waits(), w.d.Greatest()}
	for range 2 {
		for _, s := range all {
			w.add(t, s, want)
		}
	}
	unchanged(t, w.d, before)
	w.nodes(t)
}

// retagged is a node's bytes with another tag.
func retagged(x item, tag string) string { return x.s[:len(x.s)-len(tag)] + tag }

// 12.1: the example of the chapter.
func TestExample(t *testing.T) {
	w := twins(t, 4)
	a := signed(t, 2, 1, 20)
	b := signed(t, 1, 2, 20, a)
	w.come(t, b, api.ErrWait)
	w.all(t, a, a, b)
}

// 12.1: a ring, one without keys, and none.
func TestNew(t *testing.T) {
	if d, e := dag.New(nil); d != nil || e != api.ErrArg {
		t.Errorf("New of no ring: %v, %d", d, int(e))
	}
	x := signed(t, 0, 1, 20)
	w := twins(t, 0)
	w.refused(t, api.ErrTag, x.s)
	for n := 1; n <= keysMost; n++ {
		w := twins(t, n)
		w.all(t, x, x)
		for author := range keysMost {
			y := signed(t, author, 1, 21)
			if author < n {
				w.all(t, y, y)
			} else {
				w.refused(t, api.ErrTag, y.s)
			}
		}
	}
	w = &twin{d: &dag.Dag{}, m: &model{ring: keys(t, 0)}}
	w.refused(t, api.ErrTag, x.s)
	w.refused(t, api.ErrCut, "")
	w.drop(t, 0)
}

// R2: a ring that was handed in may be another one later.
func TestNewOwnRing(t *testing.T) {
	ring := keys(t, 3)
	d, _ := dag.New(ring)
	other, _ := mac.NewRing("another", 3)
	x, y := signed(t, 1, 1, 20), signed(t, 1, 2, 20)
	if _, e := d.Add(x.s); e != api.OK {
		t.Fatal(int(e))
	}
	*ring = *other
	if _, e := d.Add(y.s); e != api.OK {
		t.Errorf("a key of the ring: %d", int(e))
	}
	n, _ := node.Sign(other, signed(t, 1, 3, 20).n)
	s, _ := node.Encode(n)
	if _, e := d.Add(s); e != api.ErrTag {
		t.Errorf("a key of another ring: %d", int(e))
	}
}

// 12.1: two of one ring are apart.
func TestApart(t *testing.T) {
	ring := keys(t, 3)
	a, _ := dag.New(ring)
	b, _ := dag.New(ring)
	p := signed(t, 0, 1, 20)
	x := signed(t, 1, 2, 20, p)
	a.Add(x.s)
	if b.Waits() != 0 || len(b.Missing()) != 0 {
		t.Error("what waits is told by another one")
	}
	b.Add(p.s)
	if a.Len() != 0 || a.Waits() != 1 || b.Len() != 1 {
		t.Error("what was taken is told by another one")
	}
}

// 12.1: a digest that is known, as another program made it.
func TestKnownDigest(t *testing.T) {
	w := twins(t, 4)
	x := signed(t, 2, 1, 20)
	l, e := w.d.Add("02" + "00" + "03" + "0000000000000001" + "02" + "0000000000000014" + x.n.Tag)
	if e != api.OK || len(l) != 1 || hex.EncodeToString([]byte(l[0])) != "107bff2484dbd774ae02f5e8c1dbb3e122c6978e923bbc19a59f60e6b50690d7" {
		t.Errorf("Add: %x, %d", l, int(e))
	}
}

// 12.1: nodes without parents, and nodes whose parents are all there, up to as many as may be.
func TestTaken(t *testing.T) {
	w := twins(t, keysMost)
	var all []item
	for i := range parentsMost {
		x := signed(t, i, uint64(1+i), 20)
		w.all(t, x, x)
		all = append(all, x)
	}
	for i := range parentsMost + 1 {
		x := signed(t, 9, 9, 30+i, all[:i]...)
		w.all(t, x, x)
	}
}

// 12.1: all kinds of operations are taken, and counts of all sizes.
func TestTakenKinds(t *testing.T) {
	const greatest = 1<<48 - 1
	w := twins(t, keysMost)
	first := signed(t, 3, 1, 20)
	w.all(t, first, first)
	for i, o := range []api.Op{
		{Kind: api.OpCreate, Thing: 16*2 + 3 + 16, Name: "a", Dir: true},
		{Kind: api.OpMove, Thing: 20, Parent: api.Root, Name: "b"},
		{Kind: api.OpDelete, Thing: 20},
		{Kind: api.OpContent, Thing: 20, Digest: strings.Repeat("d", 32), Size: 7},
	} {
		o.At = api.Stamp{Count: 3, Who: 3}
		n, e := node.Sign(keys(t, keysMost), api.Node{Author: 3, Parents: []string{first.h}, Op: o})
		if e != api.OK {
			t.Fatalf("operation %d: %d", i, int(e))
		}
		s, _ := node.Encode(n)
		x := item{n, node.Hash(n), s}
		w.all(t, x, x)
	}
	for _, count := range []uint64{2, 3, 255, 256, 1 << 32, greatest - 1, greatest} {
		x := signed(t, 3, count, 50, first)
		w.all(t, x, x)
	}
	last := signed(t, 3, greatest, 60)
	w.all(t, last, last)
	w.refused(t, api.ErrOld, signed(t, 4, greatest, 61, last).s)
}

// 12.1: bytes that are no node: node.Decode's error, whichever it is.
func TestNoNode(t *testing.T) {
	w := twins(t, 4)
	there := signed(t, 1, 1, 20)
	w.all(t, there, there)
	x := signed(t, 1, 2, 20, there)
	w.seen = append(w.seen, x)
	for i := range x.s {
		w.add(t, x.s[:i], api.ErrCut)
	}
	const late = "03" + "0000000000000003" + "10" + "0000000000000014" // nobody's time
	const away = "03" + "0000000000000003" + "01" + "000000000000000f" // no thing
	const good = "03" + "0000000000000003" + "01" + "0000000000000014"
	tag := strings.Repeat("t", 32)
	for _, c := range []struct {
		s    string
		want api.Errno
	}{
		{"", api.ErrCut},
		{"no node", api.ErrForm},
		{x.s + "0", api.ErrMore},
		{x.s + x.s, api.ErrMore},
		{"01" + "09" + strings.Repeat(there.h, 9) + good + tag, api.ErrMany},
		{"01" + "02" + there.h + there.h + good + tag, api.ErrForm},
		{"02" + "00" + good + tag, api.ErrForm},
		{"01" + "00" + late + tag, api.ErrStamp},
		{"01" + "00" + away + tag, api.ErrOp},
		{"01" + "00" + good + tag, api.ErrTag},
	} {
		w.refused(t, c.want, c.s)
	}
	w.all(t, x, x)
}

// 12.1: a tag that is not right: each bit of it, another author's, another node's.
func TestTag(t *testing.T) {
	w := twins(t, 4)
	p := signed(t, 2, 1, 20)
	w.all(t, p, p)
	x := signed(t, 1, 2, 20, p)
	for i := range 32 * 8 {
		tag := []byte(x.n.Tag)
		tag[i/8] ^= 1 << (i % 8)
		w.add(t, retagged(x, string(tag)), api.ErrTag)
	}
	ring := keys(t, 4)
	anothers, _ := ring.Tag(2, x.h)
	w.refused(t, api.ErrTag, retagged(x, anothers), retagged(x, p.n.Tag), retagged(x, strings.Repeat("\x00", 32)), retagged(x, x.h))
	w.all(t, x, x)
}

// 12.1: an author who has no key in the ring.
func TestNoKey(t *testing.T) {
	for n := range keysMost {
		w := twins(t, n)
		for author := n; author < keysMost; author++ {
			w.refused(t, api.ErrTag, signed(t, author, 1, 20).s)
		}
	}
}

// 12.1: one that is there, behind whatever came later, and one that waits.
func TestKnown(t *testing.T) {
	w := twins(t, 4)
	a := signed(t, 1, 1, 20)
	b := signed(t, 2, 2, 20, a)
	c := signed(t, 3, 3, 20, b)
	w.all(t, a, a)
	w.refused(t, api.ErrKnown, a.s)
	w.come(t, c, api.ErrWait)
	w.refused(t, api.ErrKnown, a.s, c.s)
	w.all(t, b, b, c)
	w.refused(t, api.ErrKnown, a.s, b.s, c.s)
}

// 12.1: a parent that is there with the same count, and with a greater one, wherever it stands among the others, and where others are not there.
func TestOld(t *testing.T) {
	w := twins(t, 4)
	var there []item
	for i, count := range []uint64{4, 5, 6, 1 << 40} {
		p := signed(t, i, count, 20)
		w.all(t, p, p)
		there = append(there, p)
	}
	away := signed(t, 1, 1, 70)
	far := signed(t, 2, 9, 71)
	w.seen = append(w.seen, away, far)
	for count := uint64(1); count < 9; count++ {
		for thing := range 6 { // other digests, in other orders
			for mask := range 64 {
				var parents []item
				old := false
				for i, p := range append(there[:4:4], away, far) {
					if mask>>i&1 == 1 {
						parents = append(parents, p)
						old = old || i < 4 && p.n.Op.At.Count >= count
					}
				}
				if old {
					w.add(t, signed(t, 3, count, 30+thing, parents...).s, api.ErrOld)
				}
			}
		}
	}
	w.told(t)
	x := signed(t, 3, 7, 40, there[:3]...)
	w.all(t, x, x)
}

// 12.1: as many of an author wait as may: one more does not, and one of another author does.
func TestManyWait(t *testing.T) {
	w := twins(t, keysMost)
	root := signed(t, 0, 1, 20)
	var all []item
	for i := range waitMost {
		x := signed(t, 5, 10, 30+i, root)
		w.come(t, x, api.ErrWait)
		all = append(all, x)
	}
	more := signed(t, 5, 10, 60, root)
	w.refused(t, api.ErrMany, more.s, signed(t, 5, 11, 61, all[0]).s)
	w.refused(t, api.ErrKnown, all[0].s, all[waitMost-1].s)
	for author := range keysMost {
		if author == 5 {
			continue
		}
		for i := range waitMost {
			w.come(t, signed(t, author, 10, 30+i, root), api.ErrWait)
		}
		w.refused(t, api.ErrMany, signed(t, author, 10, 60, root).s)
	}
	// One that need not wait is taken, of the same author, too.
	y := signed(t, 5, 1, 80)
	w.all(t, y, y)
	w.come(t, root, api.OK)
	if w.d.Len() != 2+waitMost*keysMost || w.d.Waits() != 0 {
		t.Errorf("%d nodes, %d wait", w.d.Len(), w.d.Waits())
	}
	w.all(t, more, more)
}

// 12.1: room is there again behind one that was taken, and behind one that went.
func TestRoomAgain(t *testing.T) {
	for _, count := range []uint64{1, 10, 11} { // the parent's: a lesser one, and not
		w := twins(t, 4)
		one := signed(t, 0, count, 20)
		other := signed(t, 0, 2, 21)
		first := signed(t, 2, 10, 30, one)
		w.come(t, first, api.ErrWait)
		for i := range waitMost - 1 {
			w.come(t, signed(t, 2, 10, 40+i, other), api.ErrWait)
		}
		last, more := signed(t, 2, 10, 60, other), signed(t, 2, 10, 61, other)
		w.refused(t, api.ErrMany, last.s)
		if count < 10 {
			w.all(t, one, one, first)
		} else {
			w.all(t, one, one)
			w.refused(t, api.ErrOld, first.s)
		}
		w.come(t, last, api.ErrWait)
		w.refused(t, api.ErrMany, more.s)
	}
}

// 12.1: which error it is where several apply.
func TestFirst(t *testing.T) {
	w := twins(t, 4)
	bad := strings.Repeat("t", 32)
	there := signed(t, 1, 5, 20)
	away := signed(t, 1, 1, 21)
	w.all(t, there, there)
	var waiting []item
	for i := range waitMost {
		x := signed(t, 2, 9, 30+i, there, away)
		w.come(t, x, api.ErrWait)
		waiting = append(waiting, x)
	}
	// Decode's ahead of ErrTag, ErrKnown, ErrOld, ErrWait.
	w.refused(t, api.ErrMore, retagged(there, bad)+"0", there.s+"0", waiting[0].s+"0")
	w.refused(t, api.ErrCut, there.s[:len(there.s)-1], waiting[0].s[:len(waiting[0].s)-1])
	// ErrTag ahead of ErrKnown, ErrOld, ErrMany, ErrWait.
	old, many, wait := signed(t, 3, 5, 50, there), signed(t, 2, 9, 51, away), signed(t, 3, 9, 52, away)
	oldAway := signed(t, 2, 5, 53, there, away)
	for _, x := range []item{there, waiting[0], old, oldAway, many, wait} {
		w.refused(t, api.ErrTag, retagged(x, bad))
	}
	// ErrKnown ahead of ErrMany.
	for _, x := range waiting {
		w.refused(t, api.ErrKnown, x.s)
	}
	// ErrOld ahead of ErrMany, ErrWait.
	w.refused(t, api.ErrOld, old.s, oldAway.s, signed(t, 3, 5, 53, there, away).s, signed(t, 3, 4, 53, there, waiting[0]).s)
	// ErrMany ahead of ErrWait.
	w.refused(t, api.ErrMany, many.s, signed(t, 2, 6, 54, there, away).s)
	w.come(t, wait, api.ErrWait)
}

// R2: bytes that were handed in are not changed, and a list that was told is nobody else's.
func TestOwn(t *testing.T) {
	w := twins(t, 4)
	a := signed(t, 1, 1, 20)
	b := signed(t, 2, 2, 20, a)
	s := strings.Clone(b.s)
	w.d.Add(s)
	l, _ := w.d.Add(a.s)
	if s != b.s || !slices.Equal(l, digests(a, b)) {
		t.Fatalf("%x", l)
	}
	l[0], l[1] = "x", "y"
	l = append(l, "z")
	if !slices.Equal(w.d.Order(), digests(a, b)) || !slices.Equal(w.d.Heads(), digests(b)) {
		t.Error("what was told is kept")
	}
}
