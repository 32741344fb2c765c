package dag_test

import (
	"arbour/api"
	"arbour/dag"
	"slices"
	"testing"
)

// taken is the digests of nodes that can be taken at all, rising: those that are behind their parents, which can be.
func taken(l []item) []string {
	var can []item
	for before := -1; before < len(can); {
		before = len(can)
		for _, x := range l {
			fits := !slices.ContainsFunc(x.n.Parents, func(h string) bool {
				i := at(can, h)
				return i < 0 || can[i].n.Op.At.Count >= x.n.Op.At.Count
			})
			if fits && at(can, x.h) < 0 {
				can = append(can, x)
			}
		}
	}
	return sorted(can...)
}

// comes wants that these are taken of nodes that come in an order, each behind its parents.
func comes(t *testing.T, l []item, want []string) {
	t.Helper()
	d, _ := dag.New(keys(t, keysMost))
	var told []string
	for _, x := range l {
		more, e := d.Add(x.s)
		if e != api.OK && e != api.ErrWait && e != api.ErrOld && e != api.ErrKnown {
			t.Fatalf("Add: %d", int(e))
		}
		told = append(told, more...)
	}
	same(t, "what was told", told, d.Order())
	for i, h := range d.Order() {
		n, _ := d.Get(h)
		for _, p := range n.Parents {
			if !slices.Contains(d.Order()[:i], p) {
				t.Fatal("a node stands ahead of its parent")
			}
		}
	}
	got := d.Order()
	slices.Sort(got)
	same(t, "taken", got, want)
}

// 12.3: all orders of a few nodes of several shapes.
func TestAllOrders(t *testing.T) {
	a := signed(t, 0, 2, 20)
	b := signed(t, 1, 4, 20, a)
	c := signed(t, 2, 4, 20, a)
	join := signed(t, 3, 5, 20, b, c)
	equal := signed(t, 4, 4, 20, b)
	mixed := signed(t, 5, 4, 20, a, c)
	behind := signed(t, 6, 9, 20, equal)
	never := signed(t, 7, 1, 20)
	lacks := signed(t, 8, 9, 20, a, never)
	for _, l := range [][]item{
		row(t, 6, 2),
		{a, b, c, join},
		{a, b, c, join, behind, mixed},
		{a, b, equal, behind, join},
		{a, b, c, equal, mixed, join},
		{a, c, mixed, lacks, never, join},
		{a, b, c, lacks, join, equal},
		{b, c, join, equal, behind},
		{a, a, b, b, equal, equal},
	} {
		want := taken(l)
		orders(l, func(l []item) { comes(t, l, want) })
	}
}

// 12.3: what is taken of the shapes is what should be.
func TestTakenAtAll(t *testing.T) {
	a := signed(t, 0, 2, 20)
	b := signed(t, 1, 4, 20, a)
	equal := signed(t, 4, 4, 20, b)
	behind := signed(t, 6, 9, 20, equal)
	join := signed(t, 7, 9, 20, a, b)
	same(t, "taken", taken([]item{behind, join, equal, b, a}), sorted(a, b, join))
	same(t, "taken", taken([]item{behind, join, equal, b}), nil)
}

// 12.3: drawn orders of many, no more of an author than may wait.
func TestDrawnOrders(t *testing.T) {
	some, none := 0, 0
	for seed := range 12 {
		draw := drawer(uint64(seed)*7 + 5)
		l := drawnItems(t, draw, waitMost*keysMost, func(i int) int { return i % keysMost })
		want := taken(l)
		some, none = some+len(want), none+len(l)-len(want)
		for range 12 {
			for i := range l {
				k := i + draw(len(l)-i)
				l[i], l[k] = l[k], l[i]
			}
			comes(t, l, want)
		}
		slices.Reverse(l)
		comes(t, slices.Concat(l, l), want)
	}
	if some < 100 || none < 20 {
		t.Errorf("%d are taken, %d are not", some, none)
	}
}
