package dag_test

import (
	"arbour/api"
	"slices"
	"testing"
)

// row is nodes behind one another, by authors in turn.
func row(t *testing.T, n, authors int) []item {
	t.Helper()
	var l []item
	for i := range n {
		l = append(l, signed(t, i%authors, uint64(i+1), 20, l[max(0, i-1):]...))
	}
	return l
}

// 12.1: a row of as many as may wait and one, the last one first.
func TestRowBackwards(t *testing.T) {
	const n = waitMost*keysMost + 1
	l := row(t, n, keysMost)
	w := twins(t, keysMost)
	for i := n - 1; i > 0; i-- {
		w.come(t, l[i], api.ErrWait)
		same(t, "Missing", w.d.Missing(), digests(l[i-1]))
	}
	w.all(t, l[0], l...)
	same(t, "Heads", w.d.Heads(), digests(l[n-1]))
}

// 12.1: a row of one author, the last one first: only so many wait, and the others come again.
func TestRowOfOne(t *testing.T) {
	l := row(t, 12, 1)
	w := twins(t, 1)
	for i := 11; i > 3; i-- {
		w.come(t, l[i], api.ErrWait)
	}
	w.refused(t, api.ErrMany, l[3].s, l[2].s, l[1].s)
	w.all(t, l[0], l[0])
	w.all(t, l[1], l[1])
	w.all(t, l[2], l[2])
	w.all(t, l[3], l[3:]...)
}

// 12.1: several that wait for one are taken in the order in which they came, whatever that is.
func TestSeveralForOne(t *testing.T) {
	p := signed(t, 0, 1, 20)
	var l []item
	for i := range 5 {
		l = append(l, signed(t, i%2, uint64(9-i), 30+i, p))
	}
	orders(l, func(l []item) {
		w := twins(t, 2)
		for _, x := range l {
			w.come(t, x, api.ErrWait)
		}
		w.all(t, p, append([]item{p}, l...)...)
		same(t, "Heads", w.d.Heads(), sorted(l...))
	})
}

// 12.1: one that waits for several is taken with the last of them, whichever that is.
func TestOneForSeveral(t *testing.T) {
	var l []item
	for i := range 5 {
		l = append(l, signed(t, i, uint64(1+i), 20))
	}
	x := signed(t, 5, 6, 20, l...)
	orders(l, func(l []item) {
		w := twins(t, 6)
		w.come(t, x, api.ErrWait)
		for _, p := range l[:4] {
			w.all(t, p, p)
		}
		same(t, "Missing", w.d.Missing(), digests(l[4]))
		w.all(t, l[4], l[4], x)
	})
}

// 12.1: it is gone over those that wait in the order in which they came, again and again.
func TestRounds(t *testing.T) {
	a := signed(t, 0, 1, 20)
	b := signed(t, 1, 2, 21, a)
	c := signed(t, 1, 2, 22, a)
	behind := signed(t, 2, 3, 23, b)
	last := signed(t, 3, 4, 24, behind, c)
	for _, k := range []struct{ came, taken []item }{
		{[]item{b, c, behind, last}, []item{a, b, c, behind, last}},
		{[]item{b, behind, c, last}, []item{a, b, behind, c, last}}, // behind can be taken when it is come to
		{[]item{behind, b, c, last}, []item{a, b, c, behind, last}}, // and waits for the next time round
		{[]item{last, behind, b, c}, []item{a, b, c, behind, last}},
		{[]item{c, behind, last, b}, []item{a, c, b, behind, last}},
		{[]item{last, c, b, behind}, []item{a, c, b, behind, last}},
		{[]item{behind, c, last, b}, []item{a, c, b, behind, last}},
	} {
		w := twins(t, 4)
		for _, x := range k.came {
			w.come(t, x, api.ErrWait)
		}
		w.all(t, a, k.taken...)
		if w.d.Waits() != 0 {
			t.Errorf("%d wait", w.d.Waits())
		}
	}
}

// 12.1: one that waits goes when a parent comes that has not a lesser count, and is not told; what waits for it goes on waiting.
func TestGoes(t *testing.T) {
	for _, count := range []uint64{5, 6, 1 << 47} {
		p := signed(t, 0, count, 20)
		x := signed(t, 1, 5, 20, p)
		y := signed(t, 2, 6, 20, x)
		fits := signed(t, 3, 1<<47+1, 20, p)
		w := twins(t, 4)
		w.come(t, y, api.ErrWait)
		w.come(t, x, api.ErrWait)
		w.come(t, fits, api.ErrWait)
		same(t, "Missing", w.d.Missing(), digests(p))
		w.all(t, p, p, fits)
		same(t, "Missing", w.d.Missing(), digests(x))
		if w.d.Waits() != 1 {
			t.Fatalf("%d wait", w.d.Waits())
		}
		w.refused(t, api.ErrOld, x.s)
		w.refused(t, api.ErrKnown, y.s)
		w.drop(t, 1)
		w.come(t, y, api.ErrWait)
	}
}

// 12.1: it goes while other parents of it are not there, too, and they are missing no more.
func TestGoesAhead(t *testing.T) {
	lesser, late, never := signed(t, 0, 1, 20), signed(t, 0, 7, 21), signed(t, 0, 2, 22)
	x := signed(t, 1, 7, 20, lesser, late, never)
	w := twins(t, 2)
	w.come(t, x, api.ErrWait)
	w.all(t, lesser, lesser)
	same(t, "Missing", w.d.Missing(), sorted(late, never))
	w.all(t, late, late)
	if w.d.Waits() != 0 || len(w.d.Missing()) != 0 {
		t.Errorf("%d wait, %d are missing", w.d.Waits(), len(w.d.Missing()))
	}
	w.all(t, never, never)
	w.refused(t, api.ErrOld, x.s)
}

// 12.1: it goes when the parent is one that waited itself, later in the order and ahead.
func TestGoesBehindWaiting(t *testing.T) {
	a := signed(t, 0, 3, 20)
	p := signed(t, 1, 8, 20, a)
	x := signed(t, 2, 8, 20, p)
	y := signed(t, 2, 9, 20, p)
	for _, came := range [][]item{{p, x, y}, {x, p, y}, {y, x, p}} {
		w := twins(t, 3)
		for _, z := range came {
			w.come(t, z, api.ErrWait)
		}
		w.all(t, a, a, p, y)
		if w.d.Waits() != 0 {
			t.Errorf("%d wait", w.d.Waits())
		}
		w.refused(t, api.ErrOld, x.s)
	}
}

// 12.1: one that is taken itself while others wait lets only those be taken that can.
func TestSomeStay(t *testing.T) {
	a, b := signed(t, 0, 1, 20), signed(t, 0, 1, 21)
	x, y, z := signed(t, 1, 2, 20, a), signed(t, 1, 2, 21, a, b), signed(t, 1, 2, 22, b)
	w := twins(t, 2)
	for _, c := range []item{z, y, x} {
		w.come(t, c, api.ErrWait)
	}
	w.all(t, a, a, x)
	same(t, "Missing", w.d.Missing(), digests(b))
	other := signed(t, 1, 9, 50)
	w.all(t, other, other)
	w.all(t, b, b, z, y)
}

// orders gives all orders of a list.
func orders(l []item, f func([]item)) {
	var fill func(done, left []item)
	fill = func(done, left []item) {
		if len(left) == 0 {
			f(slices.Clone(done))
			return
		}
		for i, x := range left {
			fill(append(done, x), slices.Concat(left[:i], left[i+1:]))
		}
	}
	fill(nil, l)
}
