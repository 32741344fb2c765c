package book_test

import (
	"arbour/api"
	"arbour/book"
	"arbour/chunk"
	"arbour/disk"
	"arbour/mac"
	"arbour/merkle"
	"arbour/node"
	"arbour/wal"
	"arbour/wire"
	"slices"
	"strconv"
	"strings"
	"testing"
)

// quota is room enough for what a test has.
const quota = 1 << 20

// item is a node's digest, and its bytes.
type item struct{ h, s string }

// signed is a node of an author.
func signed(author int, count uint64, o api.Op, parents ...item) item {
	o.At = api.Stamp{Count: count, Who: author}
	if o.Kind == api.OpCreate {
		o.Thing = count*16 + uint64(author)
	}
	var l []string
	for _, p := range parents {
		l = append(l, p.h)
	}
	slices.Sort(l)
	n, e := node.Sign(keys(16), api.Node{Author: author, Parents: l, Op: o})
	if e != api.OK {
		panic("a node that may not be")
	}
	s, _ := node.Encode(n)
	return item{node.Hash(n), s}
}

// file and folder are operations by which one comes below the root.
func file(name string) api.Op   { return api.Op{Kind: api.OpCreate, Name: name} }
func folder(name string) api.Op { return api.Op{Kind: api.OpCreate, Name: name, Dir: true} }

// content is the operation by which a thing has bytes.
func content(thing uint64, digest string, size int) api.Op {
	return api.Op{Kind: api.OpContent, Thing: thing, Digest: digest, Size: size}
}

// text is bytes that are drawn, so that they come to many chunks, unlike those of other seeds.
func text(seed, n int) string {
	draw := drawer(uint64(seed))
	var b strings.Builder
	for range n {
		b.WriteByte(byte(draw(256)))
	}
	return b.String()
}

// shares is all shares of a file.
func shares(s string) []api.Share {
	var l []api.Share
	for at := range len(chunk.List(s)) {
		x, _ := merkle.Show(s, at)
		l = append(l, x)
	}
	return l
}

// wants lets a book have a file of another one, with bytes of which it knows the digest alone.
func (x *both) wants(t *testing.T, name, digest string, size int) {
	t.Helper()
	count := x.m.dag.Greatest() + 1
	a := signed(3, count, file(name))
	x.accept(t, a.s, api.OK)
	x.accept(t, signed(3, count+1, content(count*16+3, digest, size), a).s, api.OK)
	x.asked = append(x.asked, digest)
}

// The example of the chapter.
func TestExample(t *testing.T) {
	x := begun(t, keys(4), 0, quota)
	x.create(t, "a", false, api.OK)
	x.write(t, "a", "text", api.OK)
	x.same(t)
	l := records(t, x.d)
	if x.b.Status().Nodes != 2 || len(l) != 3 || l[0][0] != 'N' || l[1] != "Ftext" || l[2][0] != 'N' {
		t.Errorf("%v, %q", x.b.Status(), l)
	}
	h := x.b.Dag().Order()
	if a, _ := x.b.Dag().Get(h[0]); l[0] != "N"+encoded(a) {
		t.Error("the first node's record")
	}
	if a, _ := x.b.Dag().Get(h[1]); l[2] != "N"+encoded(a) {
		t.Error("the second node's record")
	}
}

// encoded is a node's bytes.
func encoded(n api.Node) string {
	s, _ := node.Encode(n)
	return s
}

// Words: what a call takes is kept by one wal.Add for each kind, which is one change of the disk, and what tells nothing new, or is refused, by none.
func TestKept(t *testing.T) {
	x := begun(t, keys(4), 0, quota)
	s := text(1, 1000)
	y := shares(s)
	a, b := signed(1, 1, folder("a")), signed(1, 2, file("b"))
	c := signed(2, 3, file("c"), a, b)
	d := signed(1, 4, content(2*16+1, digest(s), len(s)), c)
	for i, call := range []struct {
		changes int
		do      func()
	}{
		{1, func() { x.create(t, "x", true, api.OK) }},
		{1, func() { x.create(t, "x/y", false, api.OK) }},
		{2, func() { x.write(t, "x/y", "text", api.OK) }},
		{2, func() { x.write(t, "x/y", "text", api.OK) }},
		{1, func() { x.move(t, "x", "z", api.OK) }},
		{1, func() { x.delete(t, "z/y", api.OK) }},
		{0, func() { x.create(t, "z", true, api.ErrThere) }},
		{0, func() { x.accept(t, "", api.ErrCut) }},
		{0, func() { x.accept(t, d.s, api.ErrWait) }},
		{0, func() { x.accept(t, c.s, api.ErrWait) }},
		{0, func() { x.accept(t, c.s, api.ErrKnown) }},
		{1, func() { x.accept(t, a.s, api.OK) }},
		{0, func() { x.share(t, y[1], false, api.ErrNone) }},
		{1, func() { x.accept(t, b.s, api.OK) }},
		{0, func() { x.accept(t, b.s, api.ErrKnown) }},
		{1, func() { x.share(t, y[1], true, api.OK) }},
		{0, func() { x.share(t, y[1], false, api.OK) }},
		{1, func() { x.share(t, y[0], true, api.OK) }},
	} {
		was := x.d.Changes()
		call.do()
		if n := x.d.Changes() - was; n != call.changes || x.d.Loose() != 0 {
			t.Fatalf("call %d: %d changes, %d are loose", i, n, x.d.Loose())
		}
		x.same(t)
	}
	if n := x.b.Status().Nodes; n != 10 {
		t.Errorf("%d nodes", n)
	}
}

// Words: a segment of its log that has 4096 bytes is followed by another one, and none that has fewer.
func TestSegments(t *testing.T) {
	for _, x := range []struct {
		bytes int
		want  []string
	}{{4095, []string{"log.1"}}, {4096, []string{"log.1", "log.2"}}, {4097, []string{"log.1", "log.2"}}} {
		y := begun(t, keys(4), 0, quota)
		y.create(t, "a", false, api.OK)
		// One write comes to a file's record and a node's: their frames and marks are as long each time.
		c := y.d.Clone()
		b, e := book.Open(c, keys(4), 0, quota)
		told(t, "Open", e, api.OK)
		told(t, "Write", b.Write("a", ""), api.OK)
		y.write(t, "a", text(1, x.bytes-c.Used()), api.OK)
		if y.d.Used() != x.bytes {
			t.Fatalf("%d bytes", y.d.Used())
		}
		y.create(t, "b", false, api.OK)
		if l := y.d.Names(); !slices.Equal(l, x.want) {
			t.Errorf("%d bytes: %q", x.bytes, l)
		}
		y.same(t)
	}
}

// stands is a book with something of all kinds, and what may be taken next of each.
func stands(t *testing.T) (*both, item, []api.Share) {
	t.Helper()
	x := begun(t, keys(4), 0, quota)
	x.create(t, "d", true, api.OK)
	x.create(t, "d/a", false, api.OK)
	x.write(t, "d/a", "text", api.OK)
	s := text(1, 700)
	x.wants(t, "b", digest(s), 700)
	x.share(t, shares(s)[0], true, api.OK)
	x.same(t)
	return x, signed(2, 9, file("c")), shares(s)
}

// still wants that a book stands still for a reason, whatever is asked of it, and changes nothing on its disk.
func still(t *testing.T, x *both, why api.Errno, next item, y []api.Share) {
	t.Helper()
	if !x.b.Dead() || x.b.Why() != why {
		t.Fatalf("%v, %d", x.b.Dead(), int(x.b.Why()))
	}
	was := x.d.Changes()
	for range 2 {
		n, e := x.b.Accept(next.s)
		answer(t, "Accept", n, e, 0, api.ErrDead)
		n, e = x.b.Accept("")
		answer(t, "Accept", n, e, 0, api.ErrDead)
		told(t, "Create", x.b.Create("e", false), api.ErrDead)
		told(t, "Create", x.b.Create("", false), api.ErrDead)
		told(t, "Move", x.b.Move("d", "e"), api.ErrDead)
		told(t, "Move", x.b.Move("none", "d"), api.ErrDead)
		told(t, "Delete", x.b.Delete("d"), api.ErrDead)
		told(t, "Delete", x.b.Delete("none"), api.ErrDead)
		told(t, "Write", x.b.Write("d/a", "other"), api.ErrDead)
		told(t, "Write", x.b.Write("none", "other"), api.ErrDead)
		s, e := x.b.Read("d/a")
		answer(t, "Read", s, e, "", api.ErrDead)
		for _, z := range append(y, api.Share{}) {
			is, e := x.b.Share(z)
			answer(t, "Share", is, e, false, api.ErrDead)
		}
		is, e := x.b.Run(5)
		answer(t, "Run", is, e, false, api.ErrDead)
		n, e = x.b.Compact()
		answer(t, "Compact", n, e, 0, api.ErrDead)
		if x.d.Up() {
			x.d.Plan(nil)
		}
		x.d.Room(-1)
	}
	if x.d.Changes() != was || !x.b.Dead() || x.b.Why() != why {
		t.Errorf("%d changes, %v, %d", x.d.Changes()-was, x.b.Dead(), int(x.b.Why()))
	}
}

// calls is calls that keep something, or do something in the folder.
func calls(x *both, next item, y []api.Share) []func() api.Errno {
	return []func() api.Errno{
		func() api.Errno { _, e := x.b.Accept(next.s); return e },
		func() api.Errno { return x.b.Create("e", false) },
		func() api.Errno { return x.b.Move("d", "e") },
		func() api.Errno { return x.b.Delete("d") },
		func() api.Errno { return x.b.Write("d/a", "other bytes") },
		func() api.Errno { _, e := x.b.Share(y[1]); return e },
		func() api.Errno { _, e := x.b.Run(5); return e },
		func() api.Errno { _, e := x.b.Compact(); return e },
	}
}

// Words: when the power fails while something is kept, it stands still, with its tree, and all that was told is there when it stands up.
func TestStillPower(t *testing.T) {
	for i := range calls(nil, item{}, nil) {
		for changes := 0; ; changes++ {
			x, next, y := stands(t)
			image, lacks := x.b.Image(), x.b.Lacks()
			x.d.Plan([]api.Fall{{At: x.d.Changes() + changes, Torn: 1}})
			e := calls(x, next, y)[i]()
			if e == api.OK {
				if changes == 0 {
					t.Errorf("call %d: no change of the disk", i)
				}
				break
			}
			told(t, "call "+strconv.Itoa(i), e, api.ErrDead)
			if s := x.b.Status(); s.Done || s.Lacks != 1 {
				t.Errorf("call %d: %v", i, s)
			}
			if !slices.Equal(x.b.Image(), image) || !slices.Equal(x.b.Lacks(), lacks) {
				t.Errorf("call %d: %v, %q", i, x.b.Image(), x.b.Lacks())
			}
			still(t, x, api.ErrDead, next, y)
			if i < 7 && changes == 0 {
				x.fall(t)
				x.same(t)
			}
		}
	}
}

// Words: when there is no room for what is to be kept, it stands still, even if there is room later.
func TestStillRoom(t *testing.T) {
	for i := range calls(nil, item{}, nil) {
		x, next, y := stands(t)
		x.d.Room(x.d.Used())
		told(t, "call "+strconv.Itoa(i), calls(x, next, y)[i](), api.ErrDead)
		still(t, x, api.ErrFull, next, y)
		x.fall(t)
		if i != 6 {
			x.same(t)
		}
	}
}

// Words: a power that failed while nothing was kept is found when something is to be kept; till then it answers as ever.
func TestPowerUnseen(t *testing.T) {
	x, next, y := stands(t)
	x.d.Crash(0, 0)
	told(t, "Create", x.b.Create("d", true), api.ErrThere)
	s, e := x.b.Read("d/a")
	answer(t, "Read", s, e, "text", api.OK)
	is, e := x.b.Share(y[0])
	answer(t, "Share", is, e, false, api.OK)
	if x.b.Dead() || x.b.Why() != api.OK || x.b.Status().Done {
		t.Errorf("%d, %v", int(x.b.Why()), x.b.Status())
	}
	told(t, "Create", x.b.Create("e", true), api.ErrDead)
	still(t, x, api.ErrDead, next, y)
}

// Words: its own operations are at the clock's next time, behind the first MaxParents heads.
func TestOwn(t *testing.T) {
	for heads := range 13 {
		x := begun(t, keys(16), 2, quota)
		for i := range heads {
			x.accept(t, signed(i, uint64(7+i%3), folder("f"+strconv.Itoa(i))).s, api.OK)
		}
		before := x.b.Dag().Heads()
		x.create(t, "own", false, api.OK)
		order := x.b.Dag().Order()
		n, _ := x.b.Dag().Get(order[len(order)-1])
		count := uint64(1)
		if heads > 0 {
			count = uint64(7+min(heads-1, 2)) + 1
		}
		want := before[:min(heads, parentsMost)]
		if len(before) != heads || n.Author != 2 || n.Op.At != (api.Stamp{Count: count, Who: 2}) || n.Op.Thing != count*16+2 || !slices.Equal(n.Parents, want) {
			t.Errorf("%d heads: %+v", heads, n)
		}
		x.write(t, "own", "text", api.OK)
		x.move(t, "own", "other", api.OK)
		x.delete(t, "other", api.OK)
		x.same(t)
		if c := x.b.Status().Count; c != count+3 {
			t.Errorf("%d heads: %d", heads, c)
		}
	}
}

// Words: what waits for an operation of its own is taken with it, and kept with it.
func TestOwnSettles(t *testing.T) {
	other := begun(t, keys(4), 0, quota)
	other.create(t, "a", true, api.OK)
	a := item{h: other.b.Dag().Order()[0]}
	x := begun(t, keys(4), 0, quota)
	b := signed(1, 2, file("b"), a)
	c := signed(2, 9, file("c"), b)
	x.accept(t, c.s, api.ErrWait)
	x.accept(t, b.s, api.ErrWait)
	if s := x.b.Status(); s.Waits != 2 || s.Nodes != 0 || s.Count != 0 {
		t.Errorf("%v", s)
	}
	was := x.d.Changes()
	x.create(t, "a", true, api.OK)
	if s := x.b.Status(); s.Waits != 0 || s.Nodes != 3 || s.Count != 9 || x.d.Changes() != was+1 {
		t.Errorf("%v", s)
	}
	x.same(t)
}

// 18.1: keys, disks and quotas that may not be, the error named first ahead of the others.
func TestOpenErrors(t *testing.T) {
	dead := disk.New()
	dead.Crash(0, 0)
	empty, _ := mac.NewRing("seed", 0)
	for _, x := range []struct {
		d         *disk.Disk
		ring      *mac.Ring
		me, quota int
		want      api.Errno
	}{
		{disk.New(), keys(1), 0, 0, api.OK},
		{disk.New(), keys(16), 15, 1, api.OK},
		{disk.New(), nil, 0, 0, api.ErrArg},
		{disk.New(), empty, 0, 0, api.ErrArg},
		{disk.New(), keys(3), 3, 0, api.ErrArg},
		{disk.New(), keys(3), -1, 0, api.ErrArg},
		{disk.New(), keys(16), 16, 0, api.ErrArg},
		{dead, keys(3), 3, 0, api.ErrArg},
		{nil, keys(3), 0, 0, api.ErrArg},
		{dead, keys(3), 0, 0, api.ErrDead},
		{dead, keys(3), 0, -1, api.ErrDead},
		{disk.New(), keys(3), 0, -1, api.ErrArg},
	} {
		b, e := book.Open(x.d, x.ring, x.me, x.quota)
		if e != x.want || (b == nil) != (e != api.OK) {
			t.Errorf("%v: %v, %d", x, b, int(e))
		}
	}
}

// 18.1: what was not finished in the folder goes, ahead of the quota, and what stands there stays; the power may fail on the way.
func TestOpenCleans(t *testing.T) {
	for _, most := range []int{-1, 0, quota} {
		d := disk.New()
		for _, s := range []string{"f/a", "d/b", "t/0", "t/1", "log.x"} {
			told(t, "Write", d.Write(s, "bytes"), api.OK)
		}
		told(t, "Sync", d.Sync(), api.OK)
		d.Plan([]api.Fall{{At: d.Changes() + 1}})
		b, e := book.Open(d, keys(2), 1, most)
		if b != nil || e != api.ErrDead {
			t.Errorf("%v, %d", b, int(e))
		}
		d.Up()
		b, e = book.Open(d, keys(2), 1, most)
		if (b == nil) != (most < 0) || (e == api.ErrArg) != (most < 0) || !slices.Equal(d.Names(), []string{"d/b", "f/a", "log.x"}) {
			t.Errorf("%v, %d, %q", b, int(e), d.Names())
		}
	}
}

// logged is a disk whose log has records.
func logged(t *testing.T, l ...string) *disk.Disk {
	t.Helper()
	d := disk.New()
	w, _, e := wal.Open(d, segmentBytes)
	told(t, "wal.Open", e, api.OK)
	told(t, "Add", w.Add(l...), api.OK)
	return d
}

// 18.1: all records, in their order, and the error of the first one that may not be.
func TestOpenRecords(t *testing.T) {
	s := text(1, 300)
	y := shares(s)
	a := signed(1, 1, file("a"))
	b := signed(1, 2, content(17, digest(s), len(s)), a)
	forged := y[0]
	forged.Chunk = "other bytes"
	unfit := y[0]
	unfit.At = unfit.Many
	good := []string{"N" + a.s, "N" + b.s, "Ftext", "S" + put(y[1])}
	for _, x := range []struct {
		want api.Errno
		l    []string
	}{
		{api.OK, nil},
		{api.OK, []string{"N" + a.s}},
		{api.OK, []string{"F", "F" + text(2, fileMost), "F"}},
		{api.OK, []string{"N" + a.s, "N" + b.s, "S" + put(y[0]), "S" + put(y[1])}},
		{api.OK, []string{"N" + a.s, "N" + b.s, "S" + put(y[0]), "S" + put(y[0])}},
		{api.ErrForm, []string{""}},
		{api.ErrForm, []string{"n" + a.s}},
		{api.ErrForm, []string{"X", "N"}},
		{api.ErrForm, []string{a.s}},
		{api.ErrCut, []string{"N", "X"}},
		{api.ErrMore, []string{"N" + a.s + "0"}},
		{api.ErrTag, []string{"N" + a.s[:len(a.s)-1] + "\x00"}},
		{api.ErrKnown, []string{"N" + a.s, "N" + a.s}},
		{api.ErrWait, []string{"N" + b.s, "N" + a.s}},
		{api.OK, []string{"F" + text(2, fileMost), "F" + text(3, fileMost), "F" + text(4, 3616-len(y[0].Chunk)), "S" + put(y[0])}},
		{api.ErrMany, []string{"F" + text(2, fileMost+1)}},
		{api.ErrQuota, []string{"F" + text(2, fileMost), "F" + text(3, fileMost), "F" + text(4, 4000)}},
		{api.ErrCut, []string{"S"}},
		{api.ErrForm, []string{"S" + strings.Replace(put(y[0]), "0000", "000x", 1)}},
		{api.ErrMore, []string{"S" + put(y[0]) + "x"}},
		{api.ErrArg, []string{"S" + put(unfit), "S"}},
		{api.ErrProof, []string{"S" + put(forged), "S"}},
		{api.ErrQuota, []string{"F" + text(2, fileMost), "F" + text(3, fileMost), "F" + text(4, 3616-len(y[0].Chunk)+1), "S" + put(y[0])}},
	} {
		for _, ahead := range [][]string{nil, {"F"}, good} {
			if len(ahead) > 1 && slices.ContainsFunc(x.l, func(r string) bool { return r != "" && (r[0] == 'N' || r[0] == 'S') }) {
				continue
			}
			d := logged(t, slices.Concat(ahead, x.l)...)
			b, e := book.Open(d, keys(4), 0, 20000)
			if e != x.want || (b == nil) != (e != api.OK) {
				t.Errorf("%.60q: %v, %d", x.l, b, int(e))
			}
		}
	}
}

// put is the bytes of a share.
func put(x api.Share) string {
	w := wire.NewWriter()
	merkle.Put(w, x)
	return w.All()
}

// 18.1: each kind of error of a node, and that nothing is kept of one that is not taken, nor of one that waits.
func TestAccept(t *testing.T) {
	x := begun(t, keys(4), 0, quota)
	a, b := signed(1, 5, folder("a")), signed(2, 6, folder("b"))
	c := signed(3, 7, file("c"), a, b)
	d := signed(1, 8, file("d"), c)
	late := signed(2, 7, file("late"), c)
	old := signed(2, 5, file("old"), a)
	x.accept(t, "", api.ErrCut)
	x.accept(t, a.s[:40], api.ErrCut)
	x.accept(t, a.s+"x", api.ErrMore)
	x.accept(t, a.s[:len(a.s)-32]+strings.Repeat("x", 32), api.ErrTag)
	x.accept(t, signed(4, 1, folder("x")).s, api.ErrTag)
	x.accept(t, "0a"+a.s[2:], api.ErrForm)
	x.accept(t, "0009"+a.s[4:], api.ErrMany)
	if x.accept(t, a.s, api.OK) != 1 {
		t.Error("one node")
	}
	x.accept(t, a.s, api.ErrKnown)
	x.accept(t, old.s, api.ErrOld)
	x.accept(t, d.s, api.ErrWait)
	x.accept(t, late.s, api.ErrWait)
	x.accept(t, c.s, api.ErrWait)
	x.accept(t, d.s, api.ErrKnown)
	x.same(t)
	if x.accept(t, b.s, api.OK) != 3 {
		t.Error("b, c and d")
	}
	if s := x.b.Status(); s.Nodes != 4 || s.Waits != 0 || s.Count != 8 {
		t.Errorf("%v", s)
	}
	x.same(t)
	none := item{h: strings.Repeat("z", 32)}
	for i := range 8 {
		x.accept(t, signed(1, uint64(20+i), file("w"), none).s, api.ErrWait)
	}
	x.accept(t, signed(1, 30, file("w"), none).s, api.ErrMany)
	x.accept(t, signed(2, 30, file("w"), none).s, api.ErrWait)
	x.same(t)
	x.b.Dag().Drop()
	x.m.dag.Drop()
	x.accept(t, signed(1, 30, file("w"), none).s, api.ErrWait)
	x.same(t)
	x.fall(t)
	x.accept(t, a.s, api.ErrKnown)
	x.accept(t, d.s, api.ErrKnown)
	x.accept(t, late.s, api.ErrOld)
	x.accept(t, old.s, api.ErrOld)
	x.same(t)
}

// full is a book that has nodes one behind the other, the last one with this count.
func full(t *testing.T, nodes int, count uint64) (*book.Book, *disk.Disk, item) {
	t.Helper()
	d := disk.New()
	b, e := book.Open(d, keys(4), 0, quota)
	told(t, "Open", e, api.OK)
	told(t, "Create", b.Create("a", false), api.OK)
	told(t, "Create", b.Create("d", true), api.OK)
	last := item{h: b.Dag().Heads()[0]}
	for i := 3; i <= nodes; i++ {
		at := uint64(i)
		if i == nodes {
			at = count
		}
		last = signed(1, at, content(32, digest(""), 0), last)
		n, e := b.Accept(last.s)
		answer(t, "Accept", n, e, 1, api.OK)
	}
	return b, d, last
}

// 18.1, 18.2: MaxNodes nodes, and no more, but for those that waited when the last one came; the errors that go ahead of it, and the bytes that are kept all the same.
func TestNodesMost(t *testing.T) {
	b, d, last := full(t, nodesMost-1, nodesMost-1)
	wait := signed(2, 5000, file("wait"), last)
	next := signed(3, 5001, file("next"), wait)
	n, e := b.Accept(next.s)
	answer(t, "Accept", n, e, 0, api.ErrWait)
	n, e = b.Accept(wait.s)
	answer(t, "Accept", n, e, 2, api.OK)
	for range 2 {
		if s := b.Status(); s.Nodes != nodesMost+1 || s.Count != 5001 {
			t.Errorf("%v", s)
		}
		for _, s := range []string{"", next.s, signed(2, 6000, file("more")).s} {
			n, e = b.Accept(s)
			answer(t, "Accept", n, e, 0, api.ErrMany)
		}
		was := d.Changes()
		told(t, "Create", b.Create("e", false), api.ErrMany)
		told(t, "Create", b.Create("a", false), api.ErrThere)
		told(t, "Create", b.Create("e/e", false), api.ErrNone)
		told(t, "Create", b.Create("e/", false), api.ErrArg)
		told(t, "Move", b.Move("a", "e"), api.ErrMany)
		told(t, "Move", b.Move("e", "f"), api.ErrNone)
		told(t, "Move", b.Move("d", "d/e"), api.ErrArg)
		told(t, "Delete", b.Delete("a"), api.ErrMany)
		told(t, "Delete", b.Delete("e"), api.ErrNone)
		told(t, "Write", b.Write("d", "text"), api.ErrArg)
		told(t, "Write", b.Write("a", text(1, fileMost+1)), api.ErrArg)
		if d.Changes() != was {
			t.Error("something was kept")
		}
		if b, e = book.Open(d, keys(4), 0, quota); e != api.OK {
			t.Fatal(int(e))
		}
	}
	told(t, "Write", b.Write("a", "text"), api.ErrMany)
	for range 2 {
		if s, is := b.Bytes(digest("text")); !is || s != "text" || b.Status().Nodes != nodesMost+1 {
			t.Errorf("%q, %v", s, is)
		}
		if b, e = book.Open(d, keys(4), 0, quota); e != api.OK {
			t.Fatal(int(e))
		}
	}
	n, e = b.Compact()
	answer(t, "Compact", n, e, nodesMost+1, api.OK)
	if b, e = book.Open(d, keys(4), 0, quota); e != api.OK || b.Status().Nodes != nodesMost+1 {
		t.Fatal(int(e), b.Status())
	}
}

// 18.2: MaxNodes goes ahead of no time left.
func TestNodesAheadOfTime(t *testing.T) {
	b, _, _ := full(t, nodesMost-1, countMost)
	told(t, "Create", b.Create("e", false), api.ErrStamp)
	b, _, _ = full(t, nodesMost, countMost)
	told(t, "Create", b.Create("e", false), api.ErrMany)
}

// 18.2: no time left, behind all other errors; the bytes are kept all the same.
func TestNoTimeLeft(t *testing.T) {
	x := begun(t, keys(4), 0, quota)
	x.create(t, "d", true, api.OK)
	x.create(t, "d/a", false, api.OK)
	x.accept(t, signed(1, countMost-1, file("b")).s, api.OK)
	x.create(t, "c", false, api.OK)
	if s := x.b.Status(); s.Count != countMost {
		t.Errorf("%v", s)
	}
	for range 2 {
		x.create(t, "e", false, api.ErrStamp)
		x.create(t, "d", false, api.ErrThere)
		x.create(t, "e/e", true, api.ErrNone)
		x.move(t, "d", "e", api.ErrStamp)
		x.move(t, "d", "d/e", api.ErrArg)
		x.delete(t, "d", api.ErrStamp)
		x.write(t, "d/a", "text", api.ErrStamp)
		x.write(t, "d", "text", api.ErrArg)
		x.asked = []string{digest("text")}
		x.same(t)
		x.fall(t)
	}
	x.accept(t, signed(2, countMost, file("e")).s, api.OK)
	x.same(t)
	if x.b.Compact(); len(records(t, x.d)) != 5 {
		t.Errorf("%q", records(t, x.d))
	}
}
