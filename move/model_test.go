package move_test

import (
	"arbour/api"
	"arbour/move"
	"slices"
	"strings"
	"testing"
)

// drawer draws the same numbers each time.
func drawer(seed uint64) func(n int) int {
	return func(n int) int {
		seed = seed*6364136223846793005 + 1442695040888963407
		return int(seed >> 33 % uint64(n))
	}
}

// at is an operation at a count by a replica, with a digest of its own.
func at(count, who int, o api.Op) api.Entry {
	o.At = api.Stamp{Count: uint64(count), Who: who}
	return api.Entry{Op: o, Hash: "h"}
}

// dir is that a folder comes.
func dir(id, parent uint64, name string) api.Op {
	return api.Op{Kind: api.OpCreate, Thing: id, Parent: parent, Name: name, Dir: true}
}

// file is that a file comes.
func file(id, parent uint64, name string) api.Op {
	return api.Op{Kind: api.OpCreate, Thing: id, Parent: parent, Name: name}
}

// moved is that a thing stands elsewhere.
func moved(id, parent uint64, name string) api.Op {
	return api.Op{Kind: api.OpMove, Thing: id, Parent: parent, Name: name}
}

// deleted is that a thing goes to the trash.
func deleted(id uint64) api.Op { return api.Op{Kind: api.OpDelete, Thing: id} }

// content is that a file has other bytes.
func content(id uint64, letter string, size int) api.Op {
	return api.Op{Kind: api.OpContent, Thing: id, Digest: strings.Repeat(letter, 32), Size: size}
}

// row is operations at the counts 1, 2, 3 .., by one replica.
func row(all ...api.Op) []api.Entry {
	var l []api.Entry
	for i, o := range all {
		l = append(l, at(i+1, 0, o))
	}
	return l
}

// ahead tells whether an operation stands ahead of another one: by counts, then by who it was, then by digests.
func ahead(a, b api.Entry) bool {
	if a.Op.At.Count != b.Op.At.Count {
		return a.Op.At.Count < b.Op.At.Count
	}
	if a.Op.At.Who != b.Op.At.Who {
		return a.Op.At.Who < b.Op.At.Who
	}
	return a.Hash < b.Hash
}

// model is a tree as the chapter tells it, without any haste: operations in order, all of them done anew whenever one comes.
type model struct {
	log    []api.Entry
	undone int
	things []api.Thing // in the order in which they were made
}

func (m *model) add(e api.Entry) bool {
	place := 0
	for place < len(m.log) && ahead(m.log[place], e) {
		place++
	}
	if place < len(m.log) && !ahead(e, m.log[place]) {
		return false
	}
	m.undone += len(m.log) - place
	m.log = slices.Insert(m.log, place, e)
	m.things = nil
	for _, e := range m.log {
		m.do(e.Op)
	}
	return true
}

// find is the place of a thing in the list; below 0, if it is not there.
func (m *model) find(id uint64) int {
	return slices.IndexFunc(m.things, func(x api.Thing) bool { return x.ID == id })
}

func (m *model) folder(id uint64) bool {
	i := m.find(id)
	return id == 0 || i >= 0 && m.things[i].Dir
}

func (m *model) do(o api.Op) {
	i := m.find(o.Thing)
	switch {
	case o.Kind == 1 && i < 0 && o.Thing > 1 && m.folder(o.Parent):
		m.things = append(m.things, api.Thing{ID: o.Thing, Parent: o.Parent, Name: o.Name, Dir: o.Dir})
	case o.Kind == 2 && i >= 0 && m.folder(o.Parent) && o.Parent != o.Thing && !m.below(o.Parent, o.Thing):
		m.things[i].Parent, m.things[i].Name = o.Parent, o.Name
	case o.Kind == 3 && i >= 0:
		m.things[i].Parent = 1
	case o.Kind == 4 && i >= 0 && !m.things[i].Dir:
		m.things[i].Digest, m.things[i].Size = o.Digest, o.Size
	}
}

func (m *model) below(id, other uint64) bool {
	i := m.find(id)
	return id == other || i >= 0 && m.below(m.things[i].Parent, other)
}

func (m *model) deep(id uint64) int {
	i := m.find(id)
	switch {
	case id < 2:
		return 0
	case i < 0:
		return -1
	}
	return 1 + m.deep(m.things[i].Parent)
}

// rising is all things by their numbers.
func (m *model) rising() []api.Thing {
	l := slices.Clone(m.things)
	slices.SortFunc(l, func(a, b api.Thing) int {
		if a.ID < b.ID {
			return -1
		}
		return 1
	})
	return l
}

func (m *model) kids(id uint64) []uint64 {
	var l []uint64
	for _, x := range m.rising() {
		if x.Parent == id {
			l = append(l, x.ID)
		}
	}
	return l
}

// all is what All of a tree tells.
func all(x *move.Tree) []api.Thing {
	var l []api.Thing
	for thing := range x.All() {
		l = append(l, thing)
	}
	return l
}

// same wants a list, and spoils what was told.
func same[T comparable](t *testing.T, what string, got, want []T) {
	t.Helper()
	if !slices.Equal(got, want) {
		t.Fatalf("%s: %v, not %v", what, got, want)
	}
	var spoilt T
	for i := range got {
		got[i] = spoilt
	}
	_ = append(got, spoilt)
}

// twin is a tree beside its model.
type twin struct {
	x *move.Tree
	m *model
}

// twins is two without things.
func twins(t *testing.T) *twin {
	t.Helper()
	w := &twin{move.New(), &model{}}
	w.told(t)
	return w
}

// numbers is those that may be asked for: of things that came or were spoken of, and others.
func (w *twin) numbers() []uint64 {
	l := []uint64{0, 1, 2, 15, 16, 17, 999999, 1<<52 - 1, 1<<64 - 1}
	for _, e := range w.m.log {
		for _, id := range []uint64{e.Op.Thing, e.Op.Parent} {
			if !slices.Contains(l, id) {
				l = append(l, id)
			}
		}
	}
	return l
}

// told wants that all that can be asked for is as it should be, twice: what was told is the caller's, and is changed by him.
func (w *twin) told(t *testing.T) {
	t.Helper()
	for range 2 {
		if w.x.Len() != len(w.m.log) || w.x.Undone() != w.m.undone {
			t.Fatalf("%d operations, %d taken back; not %d, %d", w.x.Len(), w.x.Undone(), len(w.m.log), w.m.undone)
		}
		same(t, "Log", w.x.Log(), w.m.log)
		same(t, "All", all(w.x), w.m.rising())
		for _, id := range w.numbers() {
			w.one(t, id)
		}
	}
	upright(t, w.x)
}

// one wants what is told of a number.
func (w *twin) one(t *testing.T, id uint64) {
	t.Helper()
	var want api.Thing
	i := w.m.find(id)
	if i >= 0 {
		want = w.m.things[i]
	}
	if x, ok := w.x.Get(id); x != want || ok != (i >= 0) {
		t.Fatalf("Get(%d): %v, %t; not %v", id, x, ok, want)
	}
	if n := w.x.Deep(id); n != w.m.deep(id) {
		t.Fatalf("Deep(%d): %d, not %d", id, n, w.m.deep(id))
	}
	same(t, "Kids", w.x.Kids(id), w.m.kids(id))
	for _, other := range w.numbers() {
		if is := w.x.Below(id, other); is != w.m.below(id, other) {
			t.Fatalf("Below(%d, %d): %t", id, other, is)
		}
	}
}

// upright wants that each thing comes to the root or the trash in no more steps than there are things, past folders alone.
func upright(t *testing.T, x *move.Tree) {
	t.Helper()
	things := all(x)
	for _, thing := range things {
		id, steps := thing.ID, 0
		for ; id > 1 && steps <= len(things); steps++ {
			above, ok := x.Get(id)
			if !ok || id != thing.ID && !above.Dir {
				t.Fatalf("%d stands below %d", thing.ID, id)
			}
			id = above.Parent
		}
		if id > 1 || steps != x.Deep(thing.ID) {
			t.Fatalf("%d: %d steps, not %d", thing.ID, steps, x.Deep(thing.ID))
		}
	}
}

// add wants that an operation comes, or was there.
func (w *twin) add(t *testing.T, e api.Entry, want bool) {
	t.Helper()
	if is := w.m.add(e); is != want {
		t.Fatalf("the model tells %t of %v", is, e)
	}
	if is := w.x.Add(e); is != want {
		t.Fatalf("Add(%v): %t", e, is)
	}
	w.told(t)
}

// adds wants that operations come.
func (w *twin) adds(t *testing.T, all ...api.Entry) {
	t.Helper()
	for _, e := range all {
		w.add(t, e, true)
	}
}

// idle wants that an operation comes, and changes no thing.
func (w *twin) idle(t *testing.T, e api.Entry) {
	t.Helper()
	before := all(w.x)
	w.add(t, e, true)
	same(t, "All behind what does nothing", all(w.x), before)
}

// turns wants that an operation comes, and what its thing is then; all others are what they were.
func (w *twin) turns(t *testing.T, e api.Entry, want api.Thing) {
	t.Helper()
	before := all(w.x)
	w.add(t, e, true)
	x, ok := w.x.Get(want.ID)
	if x != want || !ok {
		t.Fatalf("behind %v: %v, %t; not %v", e, x, ok, want)
	}
	is := func(x api.Thing) bool { return x.ID == want.ID }
	same(t, "the others", slices.DeleteFunc(all(w.x), is), slices.DeleteFunc(before, is))
}

// drawnOp is an operation on some things, of which most may be.
func drawnOp(draw func(int) int, things int) api.Op {
	some := func() uint64 { return uint64(16 * draw(things)) }
	o := api.Op{Kind: 1 + draw(4), Thing: 16 + some(), Parent: some(), Name: string(rune('a' + draw(26)))}
	switch o.Kind {
	case api.OpCreate:
		o.Dir = draw(3) > 0
	case api.OpMove:
	case api.OpDelete:
		o.Parent, o.Name = 0, ""
	case api.OpContent:
		o = content(o.Thing, o.Name, draw(9000))
	}
	switch draw(40) {
	case 0:
		o.Thing = uint64(draw(3))
	case 1:
		o.Parent = uint64(draw(4))
	case 2:
		o.Kind = draw(9) - 2
	case 3:
		o.Parent = o.Thing
	}
	return o
}

// drawnLog is operations at times of which some are the same, with digests of which some are; no two are the same one.
func drawnLog(draw func(int) int, n, things, counts int) []api.Entry {
	m := &model{}
	for i := range things * draw(4) / 4 {
		// Some things come early: else operations would do nothing most of the time.
		o := dir(uint64(16*(i+1)), uint64(16*draw(i+1)), "n")
		o.Dir = draw(5) > 1
		m.add(at(1+i/3, i%3, o))
	}
	for tries := 0; len(m.log) < n && tries < 10*n; tries++ {
		e := at(1+draw(counts), draw(3), drawnOp(draw, things))
		e.Hash = string([]byte{byte(draw(4) * 85)})
		m.add(e)
	}
	return m.log
}

// shuffled is a list in a drawn order.
func shuffled[T any](draw func(int) int, l []T) []T {
	l = slices.Clone(l)
	for i := range l {
		k := i + draw(len(l)-i)
		l[i], l[k] = l[k], l[i]
	}
	return l
}

// does tells of a model whether an operation, done behind all others, changes something.
func (m *model) does(o api.Op) bool {
	c := &model{things: slices.Clone(m.things)}
	c.do(o)
	return !slices.Equal(c.things, m.things)
}

// 13.1, 13.2: drawn operations in drawn orders, some of them over and over, against the chapter's words.
func TestWalks(t *testing.T) {
	did, idle, known := make(map[int]int), make(map[int]int), 0
	for seed := range 300 {
		draw := drawer(uint64(seed) + 1)
		l := shuffled(draw, drawnLog(draw, 10+draw(40), 2+draw(12), 5+draw(60)))
		w := twins(t)
		for i, e := range l {
			w.add(t, e, true)
			if draw(4) == 0 {
				w.add(t, l[draw(i+1)], false)
				known++
			}
		}
		m := &model{}
		for _, e := range w.m.log {
			if m.does(e.Op) {
				did[e.Op.Kind]++
			} else {
				idle[e.Op.Kind]++
			}
			m.do(e.Op)
		}
	}
	for kind := 1; kind <= 4; kind++ {
		if did[kind] < 200 || idle[kind] < 200 {
			t.Errorf("kind %d did something %d times, and nothing %d times", kind, did[kind], idle[kind])
		}
	}
	if known < 50 || len(idle) < 6 {
		t.Errorf("%d were there, kinds %v", known, idle)
	}
}

// R4: the same calls in the same order answer the same.
func TestSameAgain(t *testing.T) {
	for seed := range 6 {
		draw := drawer(uint64(seed) + 77)
		l := shuffled(draw, drawnLog(draw, 60, 20, 60))
		var first []uint64
		for turn := range 4 {
			x := move.New()
			var told []uint64
			for _, e := range l {
				x.Add(e)
				for thing := range x.All() {
					told = append(told, thing.ID, thing.Parent)
				}
				told = slices.Concat(told, x.Kids(0), x.Kids(1), x.Kids(16), []uint64{uint64(x.Undone())})
			}
			if turn > 0 && !slices.Equal(told, first) {
				t.Fatalf("seed %d: other answers", seed)
			}
			first = told
		}
	}
}
