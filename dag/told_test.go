package dag_test

import (
	"arbour/api"
	"arbour/dag"
	"arbour/node"
	"slices"
	"strings"
	"testing"
)

// nothing wants that there is nothing.
func nothing(t *testing.T, d *dag.Dag) {
	t.Helper()
	x := signed(t, 0, 1, 20)
	for _, h := range []string{"", "x", x.h, x.s, strings.Repeat("\x00", 32)} {
		if n, ok := d.Get(h); ok || d.Has(h) || !node.Same(n, api.Node{}) {
			t.Errorf("%x is there", h)
		}
	}
	if d.Len() != 0 || d.Waits() != 0 || d.Greatest() != 0 || len(d.Order())+len(d.Heads())+len(d.Missing()) != 0 {
		t.Error("something is told")
	}
	if n := d.Drop(); n != 0 {
		t.Errorf("Drop: %d", n)
	}
}

// 12.2: an empty one, and one that New did not make.
func TestEmpty(t *testing.T) {
	for n := range keysMost + 1 {
		d, _ := dag.New(keys(t, n))
		nothing(t, d)
		nothing(t, d)
	}
	nothing(t, &dag.Dag{})
}

// 12.2: a nil one.
func TestNil(t *testing.T) {
	var d *dag.Dag
	nothing(t, d)
	for _, s := range []string{"", "no node", signed(t, 0, 1, 20).s} {
		if l, e := d.Add(s); len(l) != 0 || e != api.ErrArg {
			t.Errorf("Add: %d, %d", len(l), int(e))
		}
	}
	nothing(t, d)
}

// 12.2: what is told behind nodes that were taken, that wait and that were refused.
func TestTold(t *testing.T) {
	w := twins(t, 4)
	a, b := signed(t, 0, 7, 20), signed(t, 1, 3, 20)
	c := signed(t, 2, 9, 20, a, b)
	never := signed(t, 0, 2, 40)
	waits := signed(t, 3, 100, 20, c, never)
	w.all(t, a, a)
	w.all(t, b, b)
	same(t, "Heads", w.d.Heads(), sorted(a, b))
	if w.d.Greatest() != 7 {
		t.Errorf("Greatest: %d", w.d.Greatest())
	}
	w.all(t, c, c)
	w.come(t, waits, api.ErrWait)
	w.refused(t, api.ErrTag, retagged(signed(t, 0, 200, 20), strings.Repeat("t", 32)))
	w.refused(t, api.ErrOld, signed(t, 0, 9, 20, c).s)
	same(t, "Order", w.d.Order(), digests(a, b, c))
	same(t, "Heads", w.d.Heads(), digests(c))
	same(t, "Missing", w.d.Missing(), digests(never))
	if w.d.Len() != 3 || w.d.Waits() != 1 || w.d.Greatest() != 9 {
		t.Errorf("%d nodes, %d wait, count %d", w.d.Len(), w.d.Waits(), w.d.Greatest())
	}
	for _, x := range []item{a, b, c} {
		if n, ok := w.d.Get(x.h); !ok || !w.d.Has(x.h) || !node.Same(n, x.n) || n.Tag != x.n.Tag {
			t.Errorf("%x: %t", x.h, ok)
		}
	}
	for _, h := range []string{waits.h, never.h, "", a.h[:31], a.h + "x", a.s, strings.ToUpper(a.h) + "x"} {
		if n, ok := w.d.Get(h); ok || w.d.Has(h) || !node.Same(n, api.Node{}) {
			t.Errorf("%x is there", h)
		}
	}
}

// 12.2: heads are those that no other node stands behind, as long as that one is there.
func TestHeads(t *testing.T) {
	w := twins(t, 4)
	var roots []item
	for i := range 6 {
		x := signed(t, i%4, uint64(1+i), 20+i)
		w.all(t, x, x)
		roots = append(roots, x)
		same(t, "Heads", w.d.Heads(), sorted(roots...))
	}
	one := signed(t, 0, 9, 30, roots[:2]...)
	w.all(t, one, one)
	same(t, "Heads", w.d.Heads(), sorted(append(roots[2:6:6], one)...))
	again := signed(t, 1, 9, 31, roots[:3]...) // behind some that are heads no more
	w.all(t, again, again)
	same(t, "Heads", w.d.Heads(), sorted(append(roots[3:6:6], one, again)...))
	low := signed(t, 2, 4, 32, roots[0]) // an older one behind all that
	w.all(t, low, low)
	same(t, "Heads", w.d.Heads(), sorted(append(roots[3:6:6], one, again, low)...))
	join := signed(t, 3, 10, 33, append(roots[3:6:6], one, again, low)...)
	w.all(t, join, join)
	same(t, "Heads", w.d.Heads(), digests(join))
	fresh := signed(t, 3, 1, 34)
	w.all(t, fresh, fresh)
	same(t, "Heads", w.d.Heads(), sorted(join, fresh))
	if w.d.Greatest() != 10 {
		t.Errorf("Greatest: %d", w.d.Greatest())
	}
}

// 12.2: what Get, Order, Heads and Missing gave is one's own to change.
func TestTheirs(t *testing.T) {
	w := twins(t, 4)
	a, b := signed(t, 0, 1, 20), signed(t, 1, 2, 20)
	c := signed(t, 2, 3, 20, a, b)
	m, n := signed(t, 0, 1, 50), signed(t, 0, 1, 51)
	for _, x := range []item{a, b, c} {
		w.come(t, x, api.OK)
	}
	w.come(t, signed(t, 3, 4, 20, c, m, n), api.ErrWait)
	got, _ := w.d.Get(c.h)
	got.Parents[0], got.Parents[1], got.Tag, got.Author = "x", "y", "", 9
	for _, l := range [][]string{w.d.Order(), w.d.Heads(), w.d.Missing()} {
		slices.Reverse(l)
		l[0] = "x"
	}
	got, _ = w.d.Get(c.h)
	if !node.Same(got, c.n) {
		t.Error("a node was changed")
	}
	same(t, "Order", w.d.Order(), digests(a, b, c))
	same(t, "Heads", w.d.Heads(), digests(c))
	same(t, "Missing", w.d.Missing(), sorted(m, n))
	w.nodes(t)
}

// 12.2: what is missing is told once, and not if it waits itself.
func TestMissing(t *testing.T) {
	w := twins(t, 8)
	a := signed(t, 0, 1, 20)
	b := signed(t, 1, 2, 20, a)
	c := signed(t, 2, 3, 20, b)
	other := signed(t, 3, 1, 21)
	w.come(t, c, api.ErrWait)
	same(t, "Missing", w.d.Missing(), digests(b))
	w.come(t, signed(t, 4, 9, 20, b, c, other), api.ErrWait)
	same(t, "Missing", w.d.Missing(), sorted(b, other))
	w.come(t, signed(t, 5, 9, 20, b), api.ErrWait)
	same(t, "Missing", w.d.Missing(), sorted(b, other))
	w.come(t, b, api.ErrWait) // it waits itself now
	same(t, "Missing", w.d.Missing(), sorted(a, other))
	w.all(t, other, other)
	same(t, "Missing", w.d.Missing(), digests(a))
	w.come(t, a, api.OK)
	if w.d.Waits() != 0 || len(w.d.Missing()) != 0 || w.d.Len() != 6 {
		t.Errorf("%d wait, %d are missing, %d are there", w.d.Waits(), len(w.d.Missing()), w.d.Len())
	}
}

// 12.2: many digests that are missing rise.
func TestMissingRise(t *testing.T) {
	w := twins(t, keysMost)
	var away []item
	for author := range keysMost {
		for i := range waitMost {
			var parents []item
			for k := range parentsMost {
				parents = append(parents, signed(t, k, 1, 20+author*100+i*10+k))
			}
			away = append(away, parents...)
			if l, e := w.d.Add(signed(t, author, 2, 20+i, parents...).s); len(l) != 0 || e != api.ErrWait {
				t.Fatal(len(l), int(e))
			}
		}
	}
	same(t, "Missing", w.d.Missing(), sorted(away...))
}

// 12.2: all that wait go, and may come again.
func TestDrop(t *testing.T) {
	w := twins(t, 4)
	a, p := signed(t, 0, 1, 20), signed(t, 0, 1, 21)
	x := signed(t, 1, 2, 20, a)
	w.all(t, a, a)
	w.drop(t, 0)
	var l []item
	for i := range waitMost {
		y := signed(t, 1, 3, 30+i, x, p)
		w.come(t, y, api.ErrWait)
		l = append(l, y)
	}
	w.refused(t, api.ErrMany, signed(t, 1, 3, 60, p).s)
	w.drop(t, waitMost)
	w.drop(t, 0)
	if w.d.Len() != 1 || len(w.d.Missing()) != 0 || w.d.Greatest() != 1 {
		t.Error("what is there went, or what went is told")
	}
	w.all(t, x, x)
	w.all(t, p, p) // nothing waits for it any more
	w.all(t, l[3], l[3])
	w.all(t, l[1], l[1])
}

// 12.1, 12.2: dropped nodes that come again stand in the order in which they came then, and as many may wait as before.
func TestDropAgain(t *testing.T) {
	w := twins(t, 4)
	p := signed(t, 0, 1, 20)
	var l []item
	for i := range waitMost {
		l = append(l, signed(t, 1, 2, 30+i, p))
	}
	for _, x := range l {
		w.come(t, x, api.ErrWait)
	}
	w.drop(t, waitMost)
	slices.Reverse(l)
	for _, x := range l {
		w.come(t, x, api.ErrWait)
	}
	w.refused(t, api.ErrMany, signed(t, 1, 2, 60, p).s)
	w.all(t, p, append([]item{p}, l...)...)
}
