package book_test

import (
	"arbour/api"
	"slices"
	"strings"
	"testing"
)

// paths is a book with files and folders.
func paths(t *testing.T) *both {
	t.Helper()
	x := begun(t, keys(4), 1, quota)
	x.create(t, "d", true, api.OK)
	x.create(t, "d/e", true, api.OK)
	x.create(t, "d/e/f", false, api.OK)
	x.create(t, "a", false, api.OK)
	x.same(t)
	return x
}

// names is the paths of what a book has.
func (x *both) names() []string {
	var l []string
	for _, f := range x.b.Image() {
		l = append(l, f.Path)
	}
	return l
}

// has wants that a book has just these paths.
func (x *both) has(t *testing.T, want ...string) {
	t.Helper()
	if l := x.names(); !slices.Equal(l, want) {
		t.Fatalf("%q, not %q", l, want)
	}
	x.same(t)
}

// unfit is paths that may not be.
func unfit() []string {
	return []string{"", "/", "a/", "/a", "a//b", "d/", "/d", "d//x", "d/x/", ".", "..", "d/.", "x.", "d/x.", "a b", "d/a\x7f", "x:", "d/*", "x\\y", "?", "\"", "<", ">", "|", "\x00", "ä",
		strings.Repeat("x", 33), "d/" + strings.Repeat("x", 33), strings.Repeat("x/", 119) + "x", strings.Repeat("x/", 5000) + "x"}
}

// 18.2: what Create makes, and each of its errors, of several the one that is named first.
func TestCreate(t *testing.T) {
	x := paths(t)
	x.create(t, "b", true, api.OK)
	x.create(t, "b/c", true, api.OK)
	x.create(t, "b/c/"+strings.Repeat("x", 32), false, api.OK)
	x.create(t, "!", false, api.OK)
	x.has(t, "!", "a", "b", "b/c", "b/c/"+strings.Repeat("x", 32), "d", "d/e", "d/e/f")
	if f, _ := x.b.Tree().Get(5*16 + 1); f != (api.Thing{ID: 81, Name: "b", Dir: true}) {
		t.Errorf("%+v", f)
	}
	if f, _ := x.b.Tree().Get(7*16 + 1); f != (api.Thing{ID: 113, Parent: 97, Name: strings.Repeat("x", 32)}) {
		t.Errorf("%+v", f)
	}
	for _, dir := range []bool{false, true} {
		for _, s := range unfit() {
			x.create(t, s, dir, api.ErrArg)
		}
		for _, s := range []string{"a", "d", "d/e", "d/e/f", "!"} {
			x.create(t, s, dir, api.ErrThere)
		}
		for _, s := range []string{"none/a", "a/x", "d/e/f/x", "d/none/x", "d/e/f/x/y", "D/x"} {
			x.create(t, s, dir, api.ErrNone)
		}
	}
	x.same(t)
}

// 18.2: a name that is there with other letters is no name that is there: the one that comes gets another one.
func TestCreateSmall(t *testing.T) {
	x := paths(t)
	x.create(t, "A", false, api.OK)
	x.has(t, "A~1", "a", "d", "d/e", "d/e/f")
	x.create(t, "A", true, api.OK)
	x.has(t, "A~1", "A~2", "a", "d", "d/e", "d/e/f")
	x.create(t, "A~2/x", true, api.OK)
	x.create(t, "A~1", true, api.ErrThere)
	x.delete(t, "a", api.OK)
	x.has(t, "A", "A~1", "A~1/x", "d", "d/e", "d/e/f")
}

// 18.2: the longest path that may be.
func TestCreateLong(t *testing.T) {
	x := begun(t, keys(4), 1, quota)
	path := ""
	for range 7 {
		path += strings.Repeat("x", 31)
		x.create(t, path, true, api.OK)
		path += "/"
	}
	x.create(t, path+strings.Repeat("y", 15), false, api.ErrArg)
	x.create(t, path+strings.Repeat("y", 14), false, api.OK)
	x.write(t, path+strings.Repeat("y", 14), "text", api.OK)
	x.same(t)
	if !x.run(t, 99) {
		t.Error("it does not stand")
	}
	x.same(t)
}

// 18.2: what Move moves, with all below, and each of its errors, of several the one that is named first.
func TestMove(t *testing.T) {
	x := paths(t)
	x.move(t, "d/e", "g", api.OK)
	x.has(t, "a", "d", "g", "g/f")
	x.move(t, "g", "d/g", api.OK)
	x.move(t, "a", "d/g/b", api.OK)
	x.move(t, "d/g/f", "d/g/a", api.OK)
	x.has(t, "d", "d/g", "d/g/a", "d/g/b")
	x.write(t, "d/g/b", "text", api.OK)
	x.move(t, "d/g/b", "b", api.OK)
	x.create(t, "dd", true, api.OK)
	x.has(t, "b", "d", "d/g", "d/g/a", "dd")
	for _, s := range append(unfit(), "none", "D", "d/g/none", "b/x") {
		x.move(t, s, "x", api.ErrNone)
		x.move(t, s, "", api.ErrNone)
		x.move(t, s, "d", api.ErrNone)
		x.move(t, s, s, api.ErrNone)
		x.move(t, s, "none/x", api.ErrNone)
	}
	for _, from := range []string{"b", "d", "d/g", "d/g/a"} {
		for _, to := range unfit() {
			x.move(t, from, to, api.ErrArg)
		}
		for _, to := range []string{"b", "d", "d/g", "d/g/a", "dd"} {
			x.move(t, from, to, api.ErrThere)
		}
		for _, to := range []string{"none/x", "b/x", "d/g/a/x", "d/none/x"} {
			x.move(t, from, to, api.ErrNone)
		}
	}
	for _, to := range []string{"d/x", "d/g/x"} {
		x.move(t, "d", to, api.ErrArg)
	}
	x.move(t, "d/g", "d/g/x", api.ErrArg)
	x.has(t, "b", "d", "d/g", "d/g/a", "dd")
	x.move(t, "d", "dd/d", api.OK)
	x.move(t, "dd/d/g", "dd/g", api.OK)
	x.move(t, "dd/d", "dd/g/d", api.OK)
	x.has(t, "b", "dd", "dd/g", "dd/g/a", "dd/g/d")
}

// 18.2: what Delete lets go, with all below; a thing that was let go is not there.
func TestDelete(t *testing.T) {
	x := paths(t)
	for _, s := range append(unfit(), "none", "A", "a/x", "d/none") {
		x.delete(t, s, api.ErrNone)
	}
	x.delete(t, "a", api.OK)
	x.delete(t, "a", api.ErrNone)
	x.has(t, "d", "d/e", "d/e/f")
	x.delete(t, "d", api.OK)
	for _, s := range []string{"d", "d/e", "d/e/f"} {
		x.delete(t, s, api.ErrNone)
		x.write(t, s, "text", api.ErrNone)
		x.move(t, s, "x", api.ErrNone)
	}
	x.has(t)
	x.create(t, "d/e", true, api.ErrNone)
	x.create(t, "d", false, api.OK)
	x.has(t, "d")
}

// 18.2: what Write writes, and each of its errors, of several the one that is named first; of none of them is anything kept.
func TestWrite(t *testing.T) {
	x := paths(t)
	long := text(1, fileMost+1)
	x.asked = []string{digest("text"), digest(long[1:]), digest("")}
	for _, s := range append(unfit(), "none", "A", "a/x", "d/none") {
		x.write(t, s, "text", api.ErrNone)
		x.write(t, s, long, api.ErrNone)
	}
	x.write(t, "d", "text", api.ErrArg)
	x.write(t, "d/e", "", api.ErrArg)
	x.write(t, "d", long, api.ErrArg)
	x.write(t, "a", long, api.ErrArg)
	x.same(t)
	for _, s := range []string{"text", long[1:], "", "text", "text"} {
		for _, path := range []string{"a", "d/e/f"} {
			x.write(t, path, s, api.OK)
			got, e := x.b.Read(path)
			answer(t, "Read", got, e, s, api.OK)
			if f := x.b.Image()[0]; path == "a" && f != (api.File{Path: "a", ID: 65, Digest: digest(s), Size: len(s)}) {
				t.Errorf("%+v", f)
			}
		}
	}
	x.same(t)
}

// 18.2: bytes beyond the quota: neither they nor an operation; chunks that are there count once.
func TestWriteQuota(t *testing.T) {
	s := text(1, 2000)
	for _, most := range []int{0, 1, 1999, 2000, 2003, 2004} {
		x := begun(t, keys(4), 0, most)
		x.create(t, "d", true, api.OK)
		x.create(t, "a", false, api.OK)
		x.create(t, "b", false, api.OK)
		x.write(t, "a", "", api.OK)
		want := api.OK
		if most < 2000 {
			want = api.ErrQuota
		}
		x.write(t, "a", s, want)
		x.write(t, "d", s, api.ErrArg)
		x.write(t, "none", s, api.ErrNone)
		x.write(t, "b", s, want)
		want = api.OK
		if most == 0 || most >= 2000 && most < 2004 {
			want = api.ErrQuota
		}
		x.write(t, "b", "text"[:max(1, min(4, most))], want)
		x.asked = []string{digest(s), digest("text")}
		x.same(t)
		x.fall(t)
		x.same(t)
	}
}

// R2, R4: the same calls on another book come to the same bytes on its disk, and what a book told may be changed.
func TestSameAgain(t *testing.T) {
	x, y := paths(t), paths(t)
	for _, z := range []*both{x, y} {
		z.write(t, "a", text(1, 500), api.OK)
		z.wants(t, "w", digest(text(2, 500)), 500)
		for _, s := range shares(text(2, 500)) {
			z.share(t, s, true, api.OK)
		}
		z.run(t, 3)
	}
	for _, name := range x.d.Names() {
		s, _ := x.d.Read(name)
		r, e := y.d.Read(name)
		answer(t, name, r, e, s, api.OK)
	}
	image, order := x.b.Image(), x.b.Dag().Order()
	image[0].Path, order[0] = "none", "none"
	for _, s := range x.b.Shares(digest(text(2, 500)), 0, 9) {
		if len(s.Path) > 0 {
			s.Path[0] = "none"
		}
	}
	l := append(x.b.Lacks(), "none")
	l[0] = "none"
	x.same(t)
}

// R2: a ring that its caller lays another one over stays the book's own; a share's way up may be changed.
func TestOwnCopies(t *testing.T) {
	ring := keys(4)
	x := begun(t, ring, 0, quota)
	*ring = *keys(0)
	x.m.ring = keys(4)
	x.create(t, "a", true, api.OK)
	x.same(t)
	s := text(1, 900)
	x.wants(t, "b", digest(s), len(s))
	for _, y := range shares(s) {
		path := slices.Clone(y.Path)
		x.share(t, y, true, api.OK)
		if !slices.Equal(y.Path, path) {
			t.Error("a way up was changed")
		}
		for i := range y.Path {
			y.Path[i] = "none"
		}
	}
	x.same(t)
}
