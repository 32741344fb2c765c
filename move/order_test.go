package move_test

import (
	"arbour/api"
	"arbour/move"
	"slices"
	"testing"
)

// orders gives all orders of a list.
func orders[T any](l []T, f func([]T)) {
	var fill func(done, left []T)
	fill = func(done, left []T) {
		if len(left) == 0 {
			f(slices.Clone(done))
			return
		}
		for i, x := range left {
			fill(append(done, x), slices.Concat(left[:i], left[i+1:]))
		}
	}
	fill(nil, l)
}

// inOrder is the things of operations that came in the order of their times.
func inOrder(l []api.Entry) []api.Thing {
	l = slices.Clone(l)
	slices.SortFunc(l, func(a, b api.Entry) int {
		if ahead(a, b) {
			return -1
		}
		return 1
	})
	m := &model{log: l}
	for _, e := range l {
		m.do(e.Op)
	}
	return m.rising()
}

// comes wants that operations that come in an order make these things; how many were taken back is told.
func comes(t *testing.T, l []api.Entry, want []api.Thing) int {
	t.Helper()
	x := move.New()
	for _, e := range l {
		if !x.Add(e) {
			t.Fatalf("%v was there", e)
		}
	}
	same(t, "All", all(x), want)
	upright(t, x)
	if x.Len() != len(l) || !slices.IsSortedFunc(x.Log(), move.Compare) {
		t.Fatalf("%d operations, not in order: %v", x.Len(), x.Log())
	}
	return x.Undone()
}

// undone wants how many were taken back by the last operation.
func (w *twin) undone(t *testing.T, e api.Entry, want int) {
	t.Helper()
	before := w.x.Undone()
	w.add(t, e, true)
	if n := w.x.Undone() - before; n != want {
		t.Fatalf("%v: %d were taken back, not %d", e, n, want)
	}
}

// 13.1: in the order of their times none is taken back; the other way round each takes all back.
func TestOrderOfTimes(t *testing.T) {
	l := row(dir(16, 0, "a"), dir(32, 16, "b"), moved(16, 0, "c"), file(48, 32, "d"), content(48, "e", 3), deleted(32), moved(48, 16, "f"))
	w := twins(t)
	for _, e := range l {
		w.undone(t, e, 0)
	}
	want := all(w.x)
	same(t, "All", slices.Clone(want), []api.Thing{
		{ID: 16, Name: "c", Dir: true}, {ID: 32, Parent: api.Trash, Name: "b", Dir: true}, {ID: 48, Parent: 16, Name: "f", Digest: content(0, "e", 3).Digest, Size: 3},
	})
	slices.Reverse(l)
	w = twins(t)
	for i, e := range l {
		w.undone(t, e, i)
	}
	same(t, "All", all(w.x), want)
	if w.x.Undone() != 21 {
		t.Errorf("%d were taken back", w.x.Undone())
	}
	w = twins(t)
	slices.Reverse(l)
	for _, c := range []struct{ time, undone int }{{4, 0}, {7, 0}, {1, 2}, {2, 2}, {6, 1}, {3, 3}, {5, 2}} {
		w.undone(t, l[c.time-1], c.undone)
	}
	same(t, "All", all(w.x), want)
}

// 13.1: operations that change nothing are taken back as others are; one that is there takes none back.
func TestUndoneIdle(t *testing.T) {
	w := twins(t)
	w.undone(t, at(9, 0, moved(16, 32, "a")), 0)
	w.undone(t, at(9, 1, deleted(64)), 0)
	w.undone(t, at(8, 0, api.Op{Kind: 77}), 2)
	w.undone(t, at(7, 0, content(16, "a", 1)), 3)
	for _, e := range w.x.Log() {
		w.add(t, e, false)
	}
	if w.x.Undone() != 5 {
		t.Errorf("%d were taken back", w.x.Undone())
	}
}

// 13.1: one of an earlier time than all others, behind which all are done again: what did nothing does something then.
func TestEarliest(t *testing.T) {
	w := twins(t)
	w.adds(t, at(2, 0, dir(32, 16, "b")), at(3, 0, file(48, 32, "c")), at(4, 0, content(48, "d", 9)), at(5, 0, moved(48, 16, "e")), at(6, 0, deleted(32)))
	same(t, "All", all(w.x), nil)
	w.undone(t, at(1, 0, dir(16, 0, "a")), 5)
	same(t, "All", all(w.x), []api.Thing{
		{ID: 16, Name: "a", Dir: true}, {ID: 32, Parent: api.Trash, Name: "b", Dir: true}, {ID: 48, Parent: 16, Name: "e", Digest: content(0, "d", 9).Digest, Size: 9},
	})
	// And what did something does nothing.
	w.undone(t, at(0, 1, file(16, 0, "z")), 6)
	same(t, "All", all(w.x), []api.Thing{{ID: 16, Name: "z"}})
}

// 13.1: what is made behind operations that move it, let it go or write it does not heed these.
func TestMadeBehind(t *testing.T) {
	w := twins(t)
	w.adds(t, at(1, 0, dir(16, 0, "a")), at(5, 0, moved(48, 16, "b")), at(6, 0, content(48, "d", 9)), at(7, 0, deleted(48)))
	w.undone(t, at(8, 0, file(48, 0, "c")), 0)
	same(t, "All", all(w.x), []api.Thing{{ID: 16, Name: "a", Dir: true}, {ID: 48, Name: "c"}})
	// It was made once more, earlier: between two of these.
	w.undone(t, at(6, 1, file(48, 16, "e")), 2)
	same(t, "All", all(w.x), []api.Thing{{ID: 16, Name: "a", Dir: true}, {ID: 48, Parent: api.Trash, Name: "e"}})
	w.undone(t, at(5, 1, dir(48, 16, "f")), 4)
	same(t, "All", all(w.x), []api.Thing{{ID: 16, Name: "a", Dir: true}, {ID: 48, Parent: api.Trash, Name: "f", Dir: true}})
	w.undone(t, at(4, 9, file(48, 0, "g")), 6)
	same(t, "All", all(w.x), []api.Thing{{ID: 16, Name: "a", Dir: true}, {ID: 48, Parent: api.Trash, Name: "b", Digest: content(0, "d", 9).Digest, Size: 9}})
}

// 13.1: a folder that is moved below one in the trash stands there with all below it, in whichever order that comes.
func TestBelowTrash(t *testing.T) {
	l := row(dir(16, 0, "a"), dir(32, 0, "b"), file(48, 32, "c"), deleted(16), moved(32, 16, "d"))
	want := []api.Thing{{ID: 16, Parent: api.Trash, Name: "a", Dir: true}, {ID: 32, Parent: 16, Name: "d", Dir: true}, {ID: 48, Parent: 32, Name: "c"}}
	orders(l, func(l []api.Entry) {
		w := twins(t)
		w.adds(t, l...)
		same(t, "All", all(w.x), want)
		if !w.x.Below(48, api.Trash) || w.x.Below(48, api.Root) || w.x.Deep(48) != 3 {
			t.Error("not in the trash")
		}
	})
	// The other one is in the trash, too, and comes out with all that was moved there.
	w := twins(t)
	w.adds(t, l...)
	w.undone(t, at(9, 0, moved(16, 0, "e")), 0)
	if w.x.Below(48, api.Trash) || w.x.Deep(48) != 3 {
		t.Error("still in the trash")
	}
	w.undone(t, at(8, 0, moved(16, 32, "e")), 1)
	if w.x.Below(48, api.Trash) || w.x.Deep(48) != 3 {
		t.Error("a folder stands below what is below it")
	}
}

// 13.1, 13.2: two moves of which one would be below the other: the earlier one is done, whichever comes first.
func TestTwoMoves(t *testing.T) {
	base := row(dir(16, 0, "a"), dir(32, 0, "b"))
	for _, c := range []struct {
		early, late api.Entry
	}{
		{at(5, 0, moved(16, 32, "c")), at(6, 0, moved(32, 16, "d"))},
		{at(5, 0, moved(16, 32, "c")), at(5, 1, moved(32, 16, "d"))},
		{at(5, 3, moved(16, 32, "c")), api.Entry{Op: at(5, 3, moved(32, 16, "d")).Op, Hash: "i"}},
		{at(5, 15, moved(16, 32, "c")), at(6, 0, moved(32, 16, "d"))},
	} {
		want := []api.Thing{{ID: 16, Parent: 32, Name: "c", Dir: true}, {ID: 32, Name: "b", Dir: true}}
		w := twins(t)
		w.adds(t, base...)
		w.undone(t, c.early, 0)
		w.undone(t, c.late, 0)
		same(t, "All", all(w.x), want)
		w = twins(t)
		w.adds(t, base...)
		w.undone(t, c.late, 0)
		same(t, "All", all(w.x), []api.Thing{{ID: 16, Name: "a", Dir: true}, {ID: 32, Parent: 16, Name: "d", Dir: true}})
		w.undone(t, c.early, 1)
		same(t, "All", all(w.x), want)
		orders(slices.Concat(base, []api.Entry{c.early, c.late}), func(l []api.Entry) { comes(t, l, want) })
	}
}

// 13.1: what was taken back is as it was: a file's bytes, names, places.
func TestTakenBack(t *testing.T) {
	w := twins(t)
	w.adds(t, row(dir(16, 0, "a"), file(32, 0, "b"), content(32, "c", 1))...)
	w.adds(t, at(20, 0, content(32, "d", 2)), at(21, 0, moved(32, 16, "e")), at(22, 0, deleted(32)))
	w.undone(t, at(10, 0, dir(48, 0, "f")), 3)
	w.undone(t, at(20, 1, content(32, "e", 3)), 2)
	w.undone(t, at(23, 0, content(32, "f", 4)), 0)
	w.undone(t, at(19, 0, deleted(16)), 5)
	w.undone(t, at(2, 1, deleted(32)), 8)
	same(t, "All", all(w.x), []api.Thing{
		{ID: 16, Parent: api.Trash, Name: "a", Dir: true}, {ID: 32, Parent: api.Trash, Name: "e", Digest: content(0, "f", 4).Digest, Size: 4}, {ID: 48, Name: "f", Dir: true},
	})
}

// 13.2: all orders of a few operations: the same things, and none below itself.
func TestAllOrders(t *testing.T) {
	a, b, c := at(1, 0, dir(16, 0, "a")), at(1, 1, dir(17, 0, "b")), at(1, 2, dir(18, 0, "c"))
	for _, l := range [][]api.Entry{
		{a, b, c, at(2, 0, moved(16, 17, "x")), at(2, 1, moved(17, 18, "y")), at(2, 2, moved(18, 16, "z"))},
		{a, b, at(2, 0, moved(16, 17, "x")), at(2, 1, moved(17, 16, "y")), at(3, 0, deleted(17)), at(3, 1, moved(17, 16, "z"))},
		{a, b, at(3, 0, file(48, 16, "f")), at(4, 0, content(48, "d", 1)), at(4, 1, content(48, "e", 2)), at(5, 1, moved(48, 17, "g"))},
		{a, b, at(2, 0, deleted(16)), at(2, 1, file(33, 16, "f")), at(3, 1, moved(33, 17, "g")), at(3, 2, moved(16, 17, "h"))},
		{a, at(2, 0, dir(32, 16, "b")), at(3, 0, dir(48, 32, "c")), at(4, 0, moved(16, 48, "x")), at(4, 1, deleted(16)), at(4, 2, moved(48, 0, "y")), at(5, 0, moved(16, 48, "z"))},
	} {
		want := inOrder(l)
		if len(want) < 2 {
			t.Fatalf("few things: %v", want)
		}
		orders(l, func(l []api.Entry) { comes(t, l, want) })
	}
}

// 13.2: drawn orders of many operations, what comes twice among them.
func TestDrawnOrders(t *testing.T) {
	things := 0
	for seed := range 20 {
		draw := drawer(uint64(seed)*7 + 5)
		l := drawnLog(draw, 250, 10+draw(60), 300)
		want := inOrder(l)
		things += len(want)
		if n := comes(t, l, want); n != 0 {
			t.Fatalf("%d were taken back", n)
		}
		for range 8 {
			comes(t, shuffled(draw, l), want)
		}
		slices.Reverse(l)
		if n := comes(t, l, want); n != len(l)*(len(l)-1)/2 {
			t.Fatalf("%d were taken back", n)
		}
		x := move.New()
		for _, e := range shuffled(draw, slices.Concat(l, l, l)) {
			x.Add(e)
		}
		same(t, "All", all(x), want)
	}
	if things < 200 {
		t.Errorf("%d things in all", things)
	}
}

// 13.2: many moves of a few folders, nearly all of which would let one stand below itself in some order.
func TestManyMoves(t *testing.T) {
	did := 0
	for seed := range 20 {
		draw := drawer(uint64(seed) + 300)
		const folders = 8
		var l []api.Entry
		for i := range folders {
			l = append(l, at(i+1, 0, dir(uint64(16*(i+1)), uint64(16*draw(i+1)), "n")))
		}
		for i := range 150 {
			o := moved(uint64(16*(1+draw(folders))), uint64(16*draw(folders+1)), string(rune('a'+draw(26))))
			if draw(12) == 0 {
				o = deleted(o.Thing)
			}
			l = append(l, at(20+i/3, i%3, o))
		}
		want := inOrder(l)
		for _, x := range want {
			if x.Parent > 1 {
				did++
			}
		}
		for range 8 {
			comes(t, shuffled(draw, l), want)
		}
	}
	if did < 20 {
		t.Errorf("%d things stand below others", did)
	}
}
