package move_test

import (
	"arbour/api"
	"arbour/move"
	"slices"
	"testing"
)

// 13.1: an empty tree: there are the root and the trash alone.
func TestEmpty(t *testing.T) {
	for _, x := range []*move.Tree{move.New(), {}} {
		for _, id := range []uint64{0, 1, 2, 15, 16, 32, 1<<64 - 1} {
			if thing, ok := x.Get(id); ok || thing != (api.Thing{}) || len(x.Kids(id)) != 0 {
				t.Errorf("%d is there", id)
			}
			want := -1
			if id < 2 {
				want = 0
			}
			if n := x.Deep(id); n != want {
				t.Errorf("Deep(%d): %d", id, n)
			}
			if !x.Below(id, id) || x.Below(id, id+1) || x.Below(id+1, id) {
				t.Errorf("Below of %d", id)
			}
		}
		if len(all(x)) != 0 || len(x.Log()) != 0 || x.Len() != 0 || x.Undone() != 0 {
			t.Error("something is told")
		}
	}
}

// 13.1: a nil tree: nothing, and -1.
func TestNil(t *testing.T) {
	var x *move.Tree
	for range 2 {
		for _, id := range []uint64{0, 1, 2, 16, 1<<64 - 1} {
			if thing, ok := x.Get(id); ok || thing != (api.Thing{}) || len(x.Kids(id)) != 0 || x.Deep(id) != -1 {
				t.Errorf("%d is there", id)
			}
			for _, other := range []uint64{0, 1, 16} {
				if x.Below(id, other) {
					t.Errorf("Below(%d, %d)", id, other)
				}
			}
		}
		if x.All() == nil {
			t.Fatal("All is nothing that can be gone over")
		}
		if len(all(x)) != 0 || len(x.Log()) != 0 || x.Len() != 0 || x.Undone() != 0 {
			t.Error("something is told")
		}
		for _, e := range []api.Entry{{}, at(1, 0, dir(16, 0, "a"))} {
			if x.Add(e) {
				t.Error("an operation came")
			}
		}
	}
}

// 13.1: Get of all kinds of things, and of what is none.
func TestGet(t *testing.T) {
	w := grown(t)
	w.adds(t, at(20, 0, content(128, "d", 5)))
	for _, want := range []api.Thing{
		{ID: 16, Name: "a", Dir: true},
		{ID: 48, Parent: 32, Name: "c", Dir: true},
		{ID: 80, Parent: api.Trash, Name: "e", Dir: true},
		{ID: 96, Parent: 80, Name: "f", Dir: true},
		{ID: 112, Name: "g"},
		{ID: 128, Parent: 32, Name: "h", Digest: content(0, "d", 5).Digest, Size: 5},
		{ID: 144, Parent: api.Trash, Name: "i"},
	} {
		if x, ok := w.x.Get(want.ID); x != want || !ok {
			t.Errorf("Get(%d): %v, %t; not %v", want.ID, x, ok, want)
		}
	}
	for _, id := range []uint64{api.Root, api.Trash, 2, 15, 17, 111, 176, 1<<64 - 1} {
		if x, ok := w.x.Get(id); ok || x != (api.Thing{}) {
			t.Errorf("Get(%d): %v, %t", id, x, ok)
		}
	}
}

// 13.1: Kids of the root, of the trash, of folders, of files and of what is not there.
func TestKids(t *testing.T) {
	w := grown(t)
	w.adds(t, at(20, 0, file(5000, 32, "z")), at(21, 0, file(33, 32, "y")), at(22, 0, dir(1<<40, 32, "x")), at(23, 0, dir(1<<63, 32, "w")), at(24, 0, dir(255, 32, "v")), at(25, 0, deleted(64)))
	for _, c := range []struct {
		id   uint64
		want []uint64
	}{
		{api.Root, []uint64{16, 112}},
		{api.Trash, []uint64{64, 80, 144}},
		{16, []uint64{32}},
		{32, []uint64{33, 48, 128, 255, 5000, 1 << 40, 1 << 63}},
		{80, []uint64{96}},
		{96, []uint64{160}},
		{48, nil}, {64, nil}, {112, nil}, {160, nil}, {2, nil}, {999, nil}, {1<<64 - 1, nil},
	} {
		for range 2 {
			same(t, "Kids", w.x.Kids(c.id), c.want)
		}
	}
}

// 13.1: Below of itself, of one above, of one that is not above, of the root and the trash.
func TestBelow(t *testing.T) {
	w := grown(t)
	for _, c := range []struct{ id, other uint64 }{
		{16, 16}, {112, 112}, {80, 80}, {0, 0}, {1, 1}, // itself
		{32, 16}, {48, 32}, {48, 16}, {128, 16}, {96, 80}, {160, 80}, // one above
		{16, 0}, {48, 0}, {112, 0}, {128, 0}, {80, 1}, {96, 1}, {144, 1}, {160, 1},
		{999, 999}, // a number is itself, even if there is no such thing
	} {
		if !w.x.Below(c.id, c.other) {
			t.Errorf("%d is not below %d", c.id, c.other)
		}
	}
	for _, c := range []struct{ id, other uint64 }{
		{16, 32}, {16, 48}, {32, 48}, {32, 128}, {64, 16}, {16, 64}, {112, 16}, {80, 96}, {128, 48}, // not above
		{16, 1}, {48, 1}, {112, 1}, {80, 0}, {96, 0}, {144, 0}, {160, 0}, {0, 1}, {1, 0}, {0, 16}, {1, 80},
		{999, 0}, {999, 1}, {999, 16}, {16, 999}, {0, 999},
	} {
		if w.x.Below(c.id, c.other) {
			t.Errorf("%d is below %d", c.id, c.other)
		}
	}
}

// 13.1: All is rising, from the first one on each time, and may be stopped early.
func TestAll(t *testing.T) {
	w := grown(t)
	rising := []uint64{16, 32, 48, 64, 80, 96, 112, 128, 144, 160}
	things := w.x.All()
	for most := range len(rising) + 2 {
		var got []uint64
		for x := range things {
			if len(got) == most {
				break
			}
			got = append(got, x.ID)
		}
		same(t, "All", got, rising[:min(most, len(rising))])
	}
	calls := 0
	things(func(api.Thing) bool {
		calls++
		return calls < 3
	})
	if calls != 3 {
		t.Errorf("%d things behind a stop at the third one", calls)
	}
}

// R1, R2: while things are gone over operations may come; what was told is what was there.
func TestAllWhileAdding(t *testing.T) {
	w := grown(t)
	before := all(w.x)
	things := w.x.All()
	var got []api.Thing
	for x := range things {
		got = append(got, x)
		w.adds(t, at(20, int(x.ID), deleted(x.ID)), at(21, int(x.ID), dir(x.ID+1000, 0, "n")))
	}
	same(t, "All", got, slices.Clone(before))
	got = nil
	for x := range things {
		got = append(got, x)
	}
	same(t, "All once more", got, before)
	w.told(t)
}

// 13.1: Log and Len, in the order of times, whenever operations came.
func TestLog(t *testing.T) {
	l := []api.Entry{
		at(1, 0, dir(16, 0, "a")), at(1, 1, deleted(99)), at(2, 0, api.Op{Kind: 9}), at(2, 7, moved(16, 0, "b")), at(300, 0, content(16, "c", 1)),
	}
	orders(l, func(came []api.Entry) {
		x := move.New()
		for i, e := range came {
			x.Add(e)
			if x.Len() != i+1 || len(x.Log()) != i+1 {
				t.Fatalf("%d operations", x.Len())
			}
		}
		same(t, "Log", x.Log(), slices.Clone(l))
	})
}

// R2: what Kids and Log gave is one's own; what was done to it changes nothing, nor does what comes change it.
func TestOwn(t *testing.T) {
	w := grown(t)
	kids, log, things := w.x.Kids(0), w.x.Log(), w.x.All()
	wantKids, wantLog, wantThings := slices.Clone(kids), slices.Clone(log), all(w.x)
	w.adds(t, at(0, 0, dir(16, 0, "ahead")), at(30, 0, deleted(16)), at(31, 0, dir(15, 0, "n")), at(2, 5, deleted(112)))
	same(t, "Kids that were told", kids, wantKids)
	same(t, "Log that was told", log, wantLog)
	same(t, "All that was told", slices.Collect(things), wantThings)
	w.told(t)
	a, b := w.x.Log(), w.x.Log()
	a[0].Hash, a[1].Op.Thing = "other", 77
	if b[0].Hash == "other" || b[1].Op.Thing == 77 {
		t.Error("two lists share what they have")
	}
	w.told(t)
	_ = append(w.x.Log()[:1], api.Entry{})
	_ = append(w.x.Kids(0)[:1], 77)
	w.told(t)
}

// 13.1: Deep of the root and the trash, of what stands below them, further down, and of what is not there.
func TestDeep(t *testing.T) {
	w := grown(t)
	for id, want := range map[uint64]int{api.Root: 0, api.Trash: 0, 16: 1, 64: 1, 112: 1, 80: 1, 144: 1, 32: 2, 96: 2, 48: 3, 128: 3, 160: 3, 2: -1, 15: -1, 999: -1, 1<<64 - 1: -1} {
		if n := w.x.Deep(id); n != want {
			t.Errorf("Deep(%d): %d, not %d", id, n, want)
		}
	}
	x := move.New()
	for i := range 500 {
		x.Add(at(i+1, 0, dir(uint64(16*(i+1)), uint64(16*i), "n")))
		if n := x.Deep(uint64(16 * (i + 1))); n != i+1 {
			t.Fatalf("Deep: %d, not %d", n, i+1)
		}
	}
	if !x.Below(16*500, 16) || x.Below(16, 16*500) || x.Undone() != 0 {
		t.Error("a long way up")
	}
	x.Add(at(900, 0, moved(16, 16*500, "n")))
	if x.Deep(16*500) != 500 {
		t.Error("the first one stands below the last one")
	}
	x.Add(at(901, 0, deleted(16*250)))
	if x.Deep(16*500) != 251 || x.Deep(16*249) != 249 || !x.Below(16*500, api.Trash) {
		t.Error("the lower half is not in the trash")
	}
}
