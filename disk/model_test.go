package disk_test

import (
	"arbour/api"
	"arbour/disk"
	"slices"
	"strings"
	"testing"
)

// said is an Append or a Write that is not sure.
type said struct {
	whole bool
	s     string
}

// kept is a model's file: what it has is worked out anew whenever it is asked for.
type kept struct {
	name    string
	settled bool
	sure    string
	loose   []said
}

// behind is what a file has behind its first n loose changes.
func (k *kept) behind(n int) string {
	s := k.sure
	for _, c := range k.loose[:n] {
		if c.whole {
			s = ""
		}
		s += c.s
	}
	return s
}

func (k *kept) now() string { return k.behind(len(k.loose)) }

func (k *kept) settle() { k.settled, k.sure, k.loose = true, k.now(), nil }

// model is a disk as the chapter tells it, without any haste.
type model struct {
	files   []*kept
	changes int
	room    int
	dead    bool
	plan    []api.Fall
}

func (m *model) at(name string) int {
	return slices.IndexFunc(m.files, func(k *kept) bool { return k.name == name })
}

func (m *model) used() int {
	n := 0
	for _, k := range m.files {
		n += len(k.now())
	}
	return n
}

func (m *model) looses() int {
	n := 0
	for _, k := range m.files {
		n += len(k.loose)
	}
	return n
}

func (m *model) drop(name string) *kept {
	i := m.at(name)
	if i < 0 {
		return nil
	}
	k := m.files[i]
	m.files = slices.Delete(m.files, i, i+1)
	return k
}

func (m *model) crash(keep, torn int) {
	if m.dead {
		return
	}
	m.dead = true
	var stay []*kept
	for _, k := range m.files {
		n := min(max(keep, 0), len(k.loose))
		if torn > 0 && n < len(k.loose) {
			next := &k.loose[n]
			if torn < 1000 && torn*8 < len(next.s) {
				next.s = next.s[:torn*8]
			}
			n++
		}
		k.loose = k.loose[:n]
		if n > 0 || k.settled {
			k.settle()
			stay = append(stay, k)
		}
	}
	m.files = stay
}

// change tells whether a change is done.
func (m *model) change() api.Errno {
	for i, f := range m.plan {
		if f.At == m.changes {
			m.plan = slices.Delete(slices.Clone(m.plan), i, i+1)
			m.crash(f.Keep, f.Torn)
			return api.ErrDead
		}
	}
	m.changes++
	return api.OK
}

func (m *model) put(name, s string, whole bool) api.Errno {
	if m.dead {
		return api.ErrDead
	}
	if !disk.Name(name) {
		return api.ErrName
	}
	had := 0
	if i := m.at(name); i >= 0 && whole {
		had = len(m.files[i].now())
	}
	if m.room >= 0 && len(s) > had && m.used()+len(s)-had > m.room {
		return api.ErrFull
	}
	if e := m.change(); e != api.OK {
		return e
	}
	if m.at(name) < 0 {
		m.files = append(m.files, &kept{name: name})
	}
	k := m.files[m.at(name)]
	k.loose = append(k.loose, said{whole, s})
	return api.OK
}

// there is the first errors of a call to a file that must be there.
func (m *model) there(name string) api.Errno {
	switch {
	case m.dead:
		return api.ErrDead
	case !disk.Name(name):
		return api.ErrName
	case m.at(name) < 0:
		return api.ErrNone
	}
	return api.OK
}

func (m *model) move(name, to string) api.Errno {
	if e := m.there(name); e != api.OK {
		return e
	}
	if !disk.Name(to) {
		return api.ErrName
	}
	if name == to {
		return api.ErrArg
	}
	if e := m.change(); e != api.OK {
		return e
	}
	m.drop(to)
	k := m.files[m.at(name)]
	k.name = to
	k.settle()
	return api.OK
}

func (m *model) remove(name string) api.Errno {
	if e := m.there(name); e != api.OK {
		return e
	}
	if e := m.change(); e != api.OK {
		return e
	}
	m.drop(name)
	return api.OK
}

func (m *model) truncate(name string, n int) api.Errno {
	if e := m.there(name); e != api.OK {
		return e
	}
	k := m.files[m.at(name)]
	if n < 0 || n > len(k.now()) {
		return api.ErrArg
	}
	if e := m.change(); e != api.OK {
		return e
	}
	k.settle()
	k.sure = k.sure[:n]
	return api.OK
}

func (m *model) sync() api.Errno {
	if m.dead {
		return api.ErrDead
	}
	for _, k := range m.files {
		k.settle()
	}
	return api.OK
}

func (m *model) clone() *model {
	c := *m
	c.plan = slices.Clone(m.plan)
	c.files = nil
	for _, k := range m.files {
		g := *k
		g.loose = slices.Clone(k.loose)
		c.files = append(c.files, &g)
	}
	return &c
}

// like wants that a disk stands as the model.
func (m *model) like(t *testing.T, d *disk.Disk) {
	t.Helper()
	if d.Dead() != m.dead || d.Changes() != m.changes || d.Loose() != m.looses() || d.Used() != m.used() {
		t.Fatalf("%v %d %d %d; not %v %d %d %d", d.Dead(), d.Changes(), d.Loose(), d.Used(), m.dead, m.changes, m.looses(), m.used())
	}
	slices.SortFunc(m.files, func(a, b *kept) int { return strings.Compare(a.name, b.name) })
	names := d.Names()
	if len(names) != len(m.files) {
		t.Fatalf("Names(): %q", names)
	}
	for i, k := range m.files {
		s, e := d.Read(k.name)
		want, wrong := k.now(), api.OK
		if m.dead {
			want, wrong = "", api.ErrDead
		}
		if names[i] != k.name || s != want || e != wrong {
			t.Fatalf("%q: %q, %d; not %q: %q", names[i], s, int(e), k.name, want)
		}
	}
}

// drawer draws numbers below n, the same ones at each run.
func drawer(seed uint64) func(n int) int {
	return func(n int) int {
		seed = seed*6364136223846793005 + 1442695040888963407
		return int(seed >> 33 % uint64(n))
	}
}

// twin is a disk beside its model.
type twin struct {
	d *disk.Disk
	m *model
}

// step does something to both.
func (w *twin) step(t *testing.T, draw func(n int) int) {
	t.Helper()
	names := []string{"a", "b", "c", "d/e", "", " "}
	name, to := names[draw(6)], names[draw(6)]
	s := "0123456789abcdefghijklmnopqrstuvwxyz"[draw(10):][:draw(27)]
	n := draw(40) - 4
	switch k := draw(16); k {
	case 0, 1, 2, 3:
		told(t, "Append", w.d.Append(name, s), w.m.put(name, s, false))
	case 4, 5:
		told(t, "Write", w.d.Write(name, s), w.m.put(name, s, true))
	case 6:
		told(t, "Move", w.d.Move(name, to), w.m.move(name, to))
	case 7:
		told(t, "Remove", w.d.Remove(name), w.m.remove(name))
	case 8:
		told(t, "Truncate", w.d.Truncate(name, n), w.m.truncate(name, n))
	case 9:
		told(t, "Sync", w.d.Sync(), w.m.sync())
	case 10:
		w.d.Room(n * 6)
		w.m.room = n * 6
	case 11:
		keep, torn := draw(6)-1, draw(5)-1
		w.d.Crash(keep, torn)
		w.m.crash(keep, torn)
	case 12, 13:
		if w.d.Up() != w.m.dead {
			t.Fatalf("Up(): %v", !w.m.dead)
		}
		w.m.dead = false
	case 14:
		var l []api.Fall
		for range draw(5) {
			l = append(l, api.Fall{At: w.m.changes + draw(8) - 2, Keep: draw(5) - 1, Torn: draw(5) - 1})
		}
		w.d.Plan(l)
		w.m.plan = slices.Clone(l)
	case 15:
		w.d, w.m = w.d.Clone(), w.m.clone()
	}
}

// 6.1, 6.2: whatever is done, in whatever order, to disks and to clones of them, they stand as the chapter tells.
func TestModel(t *testing.T) {
	for seed := range 60 {
		draw := drawer(uint64(seed))
		twins := []*twin{{disk.New(), &model{room: -1}}, {disk.New(), &model{room: -1}}}
		for range 600 {
			if draw(40) == 0 {
				from := twins[draw(2)]
				twins[draw(2)] = &twin{from.d.Clone(), from.m.clone()}
			}
			twins[draw(2)].step(t, draw)
			for _, w := range twins {
				w.m.like(t, w.d)
			}
		}
	}
}
