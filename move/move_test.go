package move_test

import (
	"arbour/api"
	"arbour/move"
	"testing"
)

// 13.1: the example of the chapter.
func TestExample(t *testing.T) {
	w := twins(t)
	w.adds(t, row(dir(16, 0, "a"), dir(32, 0, "b"))...)
	w.turns(t, at(5, 0, moved(16, 32, "a")), api.Thing{ID: 16, Parent: 32, Name: "a", Dir: true})
	w.idle(t, at(6, 0, moved(32, 16, "b")))
}

// 13.1: trees are apart from each other.
func TestNew(t *testing.T) {
	a, b := move.New(), move.New()
	if a == nil || b == nil {
		t.Fatal("no tree")
	}
	if !a.Add(at(1, 0, dir(16, 0, "a"))) || b.Len() != 0 || len(all(b)) != 0 || len(b.Kids(0)) != 0 {
		t.Error("what was done is told by another tree")
	}
	if !b.Add(at(1, 0, dir(16, 0, "b"))) || len(all(a)) != 1 || all(a)[0].Name != "a" {
		t.Error("what was done changes another tree")
	}
}

// 13.1: a tree that New did not make is one without things.
func TestNotMade(t *testing.T) {
	w := &twin{&move.Tree{}, &model{}}
	w.told(t)
	w.idle(t, at(9, 0, deleted(16)))
	w.idle(t, at(8, 0, moved(16, 0, "a")))
	w.adds(t, at(3, 0, dir(16, 0, "a")), at(2, 0, dir(32, 0, "b")))
}

// 13, Words: operations are ordered by counts, then by who it was, then by digests.
func TestCompare(t *testing.T) {
	e := func(count uint64, who int, digest string) api.Entry {
		return api.Entry{Op: api.Op{At: api.Stamp{Count: count, Who: who}}, Hash: digest}
	}
	rising := []api.Entry{
		e(0, -1, "z"), e(0, 0, ""), e(1, 0, "z"), e(1, 1, "b"), e(1, 15, "a"), e(2, 0, ""), e(2, 0, "\x00"), e(2, 0, "\x00\x00"), e(2, 0, "a"), e(2, 0, "aa"), e(2, 0, "b"), e(2, 0, "\x7f"), e(2, 0, "\x80"), e(2, 0, "\xff"),
		e(2, 1, ""), e(2, 1, "a"), e(10, 0, "a"), e(255, 9, "b"), e(256, 0, "a"), e(1<<32-1, 9, "b"), e(1<<32, 0, "a"), e(1<<48-1, 15, "a"), e(1<<48-1, 15, "b"), e(1<<63-1, 0, "b"), e(1<<63, 0, "a"), e(1<<64-1, 0, "a"),
	}
	for i, a := range rising {
		for j, b := range rising {
			c := move.Compare(a, b)
			if i < j && c >= 0 || i == j && c != 0 || i > j && c <= 0 {
				t.Errorf("Compare(%v, %v): %d", a, b, c)
			}
		}
	}
}

// 13, Words: nothing but times and digests is held against each other.
func TestCompareNothingElse(t *testing.T) {
	a := at(3, 2, dir(16, 32, "a"))
	for _, o := range []api.Op{dir(15, 32, "a"), dir(17, 32, "a"), dir(16, 31, "a"), dir(16, 33, "a"), dir(16, 32, "b"), file(16, 32, "a"), moved(16, 32, "a"), content(1, "a", 3), {}} {
		b := at(3, 2, o)
		if move.Compare(a, b) != 0 || move.Compare(b, a) != 0 {
			t.Errorf("%v is not the same as %v", b, a)
		}
		late, early := at(3, 3, o), at(3, 1, o)
		if move.Compare(a, late) >= 0 || move.Compare(late, a) <= 0 || move.Compare(a, early) <= 0 || move.Compare(early, a) >= 0 {
			t.Errorf("%v: another order", o)
		}
	}
}

// 13.1: one that is not there, and one that is: then nothing changes, wherever it stands in the order.
func TestAdd(t *testing.T) {
	w := twins(t)
	l := row(dir(16, 0, "a"), dir(32, 16, "b"), file(48, 32, "c"), content(48, "d", 5), moved(48, 16, "e"), deleted(32))
	for i, e := range l {
		w.add(t, e, true)
		for _, e := range l[:i+1] {
			w.add(t, e, false)
		}
	}
	if w.x.Undone() != 0 || w.x.Len() != 6 {
		t.Errorf("%d taken back, %d operations", w.x.Undone(), w.x.Len())
	}
}

// 13.1: the same time with unlike digests is not the same one; nor is the same digest at unlike times.
func TestAddUnlike(t *testing.T) {
	w := twins(t)
	e := func(count uint64, who int, digest, name string) api.Entry {
		o := dir(16, 0, name)
		o.At = api.Stamp{Count: count, Who: who}
		return api.Entry{Op: o, Hash: digest}
	}
	w.adds(t, e(5, 1, "b", "first"), e(5, 1, "c", "second"), e(5, 1, "a", "third"), e(5, 0, "b", "fourth"), e(4, 9, "b", "fifth"), e(5, 1, "", "sixth"), e(5, 2, "b", "seventh"), e(6, 0, "b", "eighth"))
	if x, _ := w.x.Get(16); x.Name != "fifth" {
		t.Errorf("not the earliest one: %v", x)
	}
	// That is the same one, whatever else it says.
	w.add(t, e(5, 1, "b", "other"), false)
	w.add(t, api.Entry{Op: api.Op{At: api.Stamp{Count: 4, Who: 9}}, Hash: "b"}, false)
	w.adds(t, e(1, 0, "b", "ahead of all"))
	if x, _ := w.x.Get(16); x.Name != "ahead of all" {
		t.Errorf("not the earliest one: %v", x)
	}
}

// grown is a tree with folders 16 (below it 32, below that 48), 64 and, in the trash, 80 (below it 96), and files 112 below Root, 128 below 32, 144 in the trash, 160 below 96.
func grown(t *testing.T) *twin {
	t.Helper()
	w := twins(t)
	w.adds(t, row(
		dir(16, 0, "a"), dir(32, 16, "b"), dir(48, 32, "c"), dir(64, 0, "d"), dir(80, 0, "e"), dir(96, 80, "f"),
		file(112, 0, "g"), file(128, 32, "h"), file(144, 64, "i"), file(160, 96, "j"),
		deleted(80), deleted(144))...)
	if w.x.Undone() != 0 {
		t.Fatalf("%d taken back", w.x.Undone())
	}
	same(t, "Kids(Root)", w.x.Kids(api.Root), []uint64{16, 64, 112})
	same(t, "Kids(Trash)", w.x.Kids(api.Trash), []uint64{80, 144})
	return w
}

// 13.1: OpCreate, below all that is a folder.
func TestCreate(t *testing.T) {
	for _, parent := range []uint64{api.Root, 16, 32, 48, 64, 80, 96} {
		for _, name := range []string{"n", "", "a", "a name of more bytes than there may be in a name", "\x00\xff/"} {
			w := grown(t)
			w.turns(t, at(20, 1, dir(321, parent, name)), api.Thing{ID: 321, Parent: parent, Name: name, Dir: true})
			w.turns(t, at(21, 1, file(337, parent, name)), api.Thing{ID: 337, Parent: parent, Name: name})
			w.turns(t, at(22, 1, file(353, 321, name)), api.Thing{ID: 353, Parent: 321, Name: name})
			w.idle(t, at(23, 1, file(369, 337, name)))
		}
	}
}

// 13.1: OpCreate that does nothing: of a thing that is there (in the trash, too), below what is no folder, below what is not there.
func TestCreateIdle(t *testing.T) {
	w := grown(t)
	for i, id := range []uint64{16, 48, 80, 96, 112, 128, 144, 160} {
		for _, parent := range []uint64{api.Root, 64, 96} {
			w.idle(t, at(20+i, 1+int(parent), dir(id, parent, "n")))
			w.idle(t, at(40+i, 1+int(parent), file(id, parent, "n")))
		}
	}
	for i, parent := range []uint64{api.Trash, 112, 128, 144, 160, 2, 15, 999, 321, 1<<64 - 1} {
		w.idle(t, at(60+i, 1, dir(321, parent, "n")))
		w.idle(t, at(60+i, 2, file(321, parent, "n")))
	}
	w.turns(t, at(99, 0, dir(321, 0, "n")), api.Thing{ID: 321, Name: "n", Dir: true})
}

// 13.1: a thing has no bytes when it comes, whatever is said of them.
func TestCreateNoBytes(t *testing.T) {
	w := twins(t)
	o := content(16, "d", 77)
	o.Kind, o.Name = api.OpCreate, "n"
	w.turns(t, at(1, 0, o), api.Thing{ID: 16, Name: "n"})
	w.turns(t, at(2, 0, content(16, "e", 5)), api.Thing{ID: 16, Name: "n", Digest: content(16, "e", 5).Digest, Size: 5})
	w.idle(t, at(3, 0, o))
}

// 13.1: OpMove, of files and folders, below all that is a folder and not the thing itself, into what is in the trash and out of it.
func TestMove(t *testing.T) {
	w := grown(t)
	for i, c := range []struct{ id, parent uint64 }{
		{16, 64}, {16, api.Root}, {48, 16}, {48, 32}, {64, 48}, {64, api.Root}, {32, 64}, {32, 16}, // folders
		{112, 48}, {112, 32}, {128, api.Root}, {128, 64}, // files
		{16, 80}, {16, 96}, {112, 96}, {16, api.Root}, // into the trash
		{80, api.Root}, {96, 16}, {144, 96}, {160, 48}, {80, 48}, {96, 80}, // out of it
	} {
		x, _ := w.x.Get(c.id)
		want := api.Thing{ID: c.id, Parent: c.parent, Name: "n" + x.Name, Dir: x.Dir}
		w.turns(t, at(20+i, 1, moved(c.id, c.parent, want.Name)), want)
		want.Name = "m"
		w.turns(t, at(20+i, 2, moved(c.id, c.parent, want.Name)), want)
		w.idle(t, at(20+i, 3, moved(c.id, c.parent, want.Name)))
	}
}

// 13.1: OpMove keeps what a file has, and what is said of other things with it goes for nothing.
func TestMoveKeeps(t *testing.T) {
	w := grown(t)
	w.adds(t, at(20, 0, content(112, "d", 7)))
	o := moved(112, 64, "n")
	o.Dir, o.Digest, o.Size = true, "other", 9
	w.turns(t, at(21, 0, o), api.Thing{ID: 112, Parent: 64, Name: "n", Digest: content(0, "d", 7).Digest, Size: 7})
	w.turns(t, at(22, 0, deleted(112)), api.Thing{ID: 112, Parent: api.Trash, Name: "n", Digest: content(0, "d", 7).Digest, Size: 7})
	w.turns(t, at(23, 0, moved(112, 0, "")), api.Thing{ID: 112, Digest: content(0, "d", 7).Digest, Size: 7})
	w.turns(t, at(24, 0, moved(64, 16, "q")), api.Thing{ID: 64, Parent: 16, Name: "q", Dir: true})
}

// 13.1: OpMove that does nothing: of what is not there, below itself, below what stands below it, below what is no folder, or not there.
func TestMoveIdle(t *testing.T) {
	w := grown(t)
	for i, c := range []struct{ id, parent uint64 }{
		{321, api.Root}, {321, 16}, {321, 321}, {2, api.Root}, {1<<64 - 1, api.Root}, // not there
		{16, 16}, {64, 64}, {80, 80}, {96, 96}, {112, 112}, {144, 144}, // itself
		{16, 32}, {16, 48}, {32, 48}, {80, 96}, // below it
		{16, 112}, {16, 128}, {64, 144}, {64, 160}, {112, 128}, // a file
		{16, 321}, {16, 2}, {112, 1<<64 - 1}, // not there
		{16, api.Trash}, {112, api.Trash}, {80, api.Trash}, {144, api.Trash}, // no folder
	} {
		w.idle(t, at(20+i, 1, moved(c.id, c.parent, "n")))
	}
}

// 13.1: OpDelete, of files and folders with what stands below them, from the trash, too.
func TestDelete(t *testing.T) {
	for _, id := range []uint64{16, 32, 48, 64, 96, 112, 128, 160} {
		w := grown(t)
		x, _ := w.x.Get(id)
		x.Parent = api.Trash
		kids := w.x.Kids(id)
		w.turns(t, at(20, 1, deleted(id)), x)
		same(t, "Kids", w.x.Kids(id), kids)
		if !w.x.Below(id, api.Trash) || w.x.Below(id, api.Root) || w.x.Deep(id) != 1 {
			t.Errorf("%d is not in the trash", id)
		}
		w.idle(t, at(21, 1, deleted(id)))
		// What else is said with it goes for nothing.
		w.idle(t, at(22, 1, api.Op{Kind: api.OpDelete, Thing: id, Parent: 64, Name: "n", Dir: !x.Dir, Digest: "d", Size: 1}))
		x.Parent = api.Root
		w.turns(t, at(23, 1, moved(id, api.Root, x.Name)), x)
	}
	w := grown(t)
	w.adds(t, at(20, 0, deleted(16)))
	if !w.x.Below(128, api.Trash) || w.x.Below(128, api.Root) || w.x.Deep(128) != 3 || w.x.Deep(48) != 3 {
		t.Error("what stands below a folder did not go with it")
	}
	w.adds(t, at(21, 0, moved(32, 64, "b")))
	if w.x.Below(128, api.Trash) || !w.x.Below(128, 64) || w.x.Deep(128) != 3 {
		t.Error("what stands below a folder did not come with it")
	}
}

// 13.1: OpDelete of what is not there, or goes already.
func TestDeleteIdle(t *testing.T) {
	w := grown(t)
	for i, id := range []uint64{80, 144, 321, 2, 15, 1<<64 - 1} {
		w.idle(t, at(20+i, 1, deleted(id)))
	}
}

// 13.1: OpContent of files, in the trash, too: other bytes, the same once more, none.
func TestContent(t *testing.T) {
	w := grown(t)
	for i, id := range []uint64{112, 128, 144, 160} {
		x, _ := w.x.Get(id)
		for j, o := range []api.Op{content(id, "d", 5), content(id, "d", 6), content(id, "e", 6), {Kind: api.OpContent, Thing: id}, {Kind: api.OpContent, Thing: id, Digest: "short", Size: -1}, content(id, "f", 8192)} {
			x.Digest, x.Size = o.Digest, o.Size
			w.turns(t, at(20+20*i+j, 1, o), x)
			o.Parent, o.Name, o.Dir = 16, "other", true
			w.idle(t, at(20+20*i+j, 2, o))
		}
	}
}

// 13.1: OpContent of folders and of what is not there.
func TestContentIdle(t *testing.T) {
	w := grown(t)
	for i, id := range []uint64{16, 48, 64, 80, 96, 321, 2, 15, 1<<64 - 1} {
		w.idle(t, at(20+i, 1, content(id, "d", 5)))
	}
}

// 13, Words: the root and the trash are always there: they never come, nor go, nor move, nor have bytes.
func TestRootAndTrash(t *testing.T) {
	for _, id := range []uint64{api.Root, api.Trash} {
		w := grown(t)
		for i, parent := range []uint64{api.Root, api.Trash, 16, 80, 96, 112, 321} {
			w.idle(t, at(20+i, 1, dir(id, parent, "n")))
			w.idle(t, at(20+i, 2, file(id, parent, "n")))
			w.idle(t, at(20+i, 3, moved(id, parent, "n")))
			w.idle(t, at(20+i, 4, content(id, "d", 5)))
			w.idle(t, at(20+i, 5, deleted(id)))
		}
		if x, ok := w.x.Get(id); ok || x != (api.Thing{}) || w.x.Deep(id) != 0 {
			t.Errorf("%d: %v, %t", id, x, ok)
		}
		w.turns(t, at(90, 0, dir(321, api.Root, "n")), api.Thing{ID: 321, Name: "n", Dir: true})
		w = twins(t)
		w.idle(t, at(1, 0, dir(id, api.Root, "n")))
		w.idle(t, at(2, 0, dir(16, api.Trash, "n")))
	}
}

// 13.1: kinds that are none do nothing, and are there as others are.
func TestNoKind(t *testing.T) {
	for _, kind := range []int{0, 5, -1, 6, 100, -1 << 63, 1<<63 - 1} {
		w := grown(t)
		for i, id := range []uint64{16, 112, 321, 0} {
			o := dir(id, 64, "n")
			o.Kind, o.Digest, o.Size = kind, "d", 1
			w.idle(t, at(20+i, 1, o))
			w.add(t, at(20+i, 1, o), false)
			w.idle(t, at(0, i, o))
		}
	}
}

// R1: times and numbers that may not be are taken as they come.
func TestMayNotBe(t *testing.T) {
	w := twins(t)
	for i, s := range []api.Stamp{{}, {Count: 1, Who: -1}, {Count: 1 << 48, Who: 16}, {Count: 1<<64 - 1, Who: 1<<63 - 1}, {Who: -1 << 63}} {
		for j, id := range []uint64{2, 15, 1 << 52, 1<<64 - 1} {
			o := dir(id, 0, "n")
			o.At = s
			w.add(t, api.Entry{Op: o, Hash: string(rune('a' + j))}, true)
			w.add(t, api.Entry{Op: o, Hash: string(rune('a' + j))}, false)
			if n := w.x.Len(); n != 4*i+j+1 {
				t.Errorf("%d operations", n)
			}
		}
	}
	same(t, "Kids", w.x.Kids(0), []uint64{2, 15, 1 << 52, 1<<64 - 1})
}
