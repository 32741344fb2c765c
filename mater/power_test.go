package mater_test

import (
	"arbour/api"
	"arbour/disk"
	"arbour/image"
	"arbour/mater"
	"arbour/merkle"
	"arbour/move"
	"fmt"
	"maps"
	"slices"
	"strings"
	"testing"
)

// moment is what is on the disk ahead of a change: t/0 among it.
type moment struct {
	files map[string]string
	steps int // how many were done
}

// moments is what is on the disk ahead of each change on the way to a goal, and behind the last one.
func moments(files map[string]string, g goal) []moment {
	m := modelOf(files, g)
	var l []moment
	for steps := 0; ; steps++ {
		before := maps.Clone(m.files)
		l = append(l, moment{before, steps})
		changes := m.step()
		if changes == 0 {
			return l
		}
		if changes == 2 {
			// The bytes are sure, and not in their place yet.
			half := maps.Clone(before)
			half["t/0"] = m.put(before)
			l = append(l, moment{half, steps})
		}
	}
}

// put is the bytes of the file that came, or has others than before, or else the same anew.
func (m *model) put(before map[string]string) string {
	for name, s := range m.files {
		if old, is := before[name]; strings.HasPrefix(name, "f/") && (!is || old != s) {
			return s
		}
	}
	panic("no file was put")
}

// falls wants, wherever the power fails on the way of a disk to a goal, that what stands there is what stood there behind some of the steps, that all of it is sure, and that whoever runs again comes to what is wanted.
func falls(t *testing.T, d *disk.Disk, g goal) {
	t.Helper()
	l := moments(contents(t, d), g)
	last := l[len(l)-1]
	for k, now := range l {
		for _, fall := range []api.Fall{{}, {Torn: 1}, {Keep: 1}, {Keep: 1, Torn: 1}, {Keep: 9}} {
			c := d.Clone()
			fall.At = c.Changes() + k
			c.Plan([]api.Fall{fall})
			if k < len(l)-1 {
				refused(t, c, g, 1000, api.ErrDead)
				refused(t, c, g, 1000, api.ErrDead)
				if !c.Up() {
					t.Fatal("the power did not fail")
				}
			} else if n, none, e := mater.Run(c, g.want, g.get, 1000); n != last.steps || !none || e != api.OK {
				t.Fatalf("Run: %d, %t, %d", n, none, int(e))
			}
			if got := contents(t, c); !maps.Equal(got, now.files) {
				t.Fatalf("the power failed at %d: %q, not %q", k, got, now.files)
			}
			stood := stood(now.files)
			if got := mater.Now(c); !slices.Equal(got, stood) {
				t.Fatalf("the power failed at %d: %v, not %v", k, got, stood)
			}
			again := c.Clone()
			arrives(t, again, g, last.steps-now.steps)
			told(t, "Clean", mater.Clean(c), api.OK)
			arrives(t, c, g, last.steps-now.steps)
			if !slices.Equal(mater.Now(c), mater.Now(again)) {
				t.Fatal("it came to something else")
			}
		}
	}
}

// 17.3: wherever the power fails: a file and a folder come.
func TestFalls(t *testing.T) {
	falls(t, disk.New(), to())
	falls(t, disk.New(), to("a=text that is longer than eight bytes", "b/", "b/c=other text that is longer, too", "d"))
	falls(t, with(t, "f/a", "text that is longer than eight bytes"), to("a=other text, which is longer as well"))
	falls(t, with(t, "d/a", "", "f/a/b", "1", "f/c", "2"), to())
	falls(t, disk.New(), to("a=1", "b=2", "c/", "d=3").lacking("2"))
}

// 17.3: a file becomes a folder, and a folder a file, in one another, too.
func TestFallsOtherKinds(t *testing.T) {
	falls(t, with(t, "f/a", "old bytes of a"), to("a/", "a/a/", "a/a/a=new bytes of a file"))
	falls(t, with(t, "d/a", "", "d/a/a", "", "f/a/a/a", "old bytes of a file"), to("a=new bytes of a"))
	falls(t, with(t, "d/a", "", "d/a/b", "", "f/a/b/c", "12345678+", "f/d", "12345678-", "d/e", ""), to("a/", "a/b=12345678*", "d/", "d/e/", "d/e/f=12345678/", "e"))
}

// 17.3: bytes that were not in their place yet from the fall before are no matter.
func TestFallsAside(t *testing.T) {
	falls(t, with(t, "t/0", "from long ago", "f/a", "1"), to("a=2", "b=3", "c/"))
}

// 17.3: a file that is put is the old one or the new one, with all its bytes, whatever is kept of what is loose.
func TestFallsWhole(t *testing.T) {
	draw := drawer(173)
	before, behind := drawnBytes(draw, 3000), drawnBytes(draw, 5000)
	g := goal{wanted("a=" + behind), bytesOf(behind)}
	for k := range 2 {
		for keep := range 3 {
			for torn := 0; torn < 700; torn += 99 {
				d := with(t, "f/a", before)
				d.Plan([]api.Fall{{At: d.Changes() + k, Keep: keep, Torn: torn}})
				refused(t, d, g, 9, api.ErrDead)
				d.Up()
				read(t, d, "a", before, api.OK)
				arrives(t, d, g, 1)
				kept(t, d, "f/a", behind)
			}
		}
	}
}

// 17.3: what somebody else wrote and did not settle may go, and then comes as it is wanted.
func TestFallsLoose(t *testing.T) {
	d := with(t, "f/a", "1")
	told(t, "Write", d.Write("f/a", "loose bytes"), api.OK)
	told(t, "Write", d.Write("f/b", "loose bytes"), api.OK)
	g := to("a=2", "c=3")
	d.Plan([]api.Fall{{At: d.Changes()}})
	refused(t, d, g, 9, api.ErrDead)
	d.Up()
	has(t, d, "f/a", "1")
	arrives(t, d, g, 2)
	// Behind the first step all of it is sure.
	told(t, "Write", d.Write("f/b", "loose bytes"), api.OK)
	d.Plan([]api.Fall{{At: d.Changes() + 1}})
	refused(t, d, to("a=2"), 9, api.ErrDead)
	d.Up()
	has(t, d, "f/a", "2", "f/b", "loose bytes")
}

// drawnBytes is so many drawn bytes.
func drawnBytes(draw func(int) int, n int) string {
	b := make([]byte, n)
	for i := range b {
		b[i] = byte(draw(256))
	}
	return string(b)
}

// drawnWant is a drawn image, of names that begin as others do, with texts of some bytes.
func drawnWant(draw func(int) int) []string {
	names := []string{"a", "b", "A", "a!", "a.b", "a~1", "f", "d", "t"}
	folders := []string{""}
	seen := make(map[string]bool)
	var l []string
	for range draw(14) {
		path := folders[draw(len(folders))] + names[draw(len(names))]
		if seen[path] {
			continue
		}
		seen[path] = true
		switch draw(5) {
		case 0, 1:
			folders = append(folders, path+"/")
			l = append(l, path+"/")
		case 2:
			l = append(l, path)
		default:
			l = append(l, fmt.Sprint(path, "=bytes of file ", draw(9)))
		}
	}
	slices.SortFunc(l, func(a, b string) int {
		return image.Compare(wanted(a)[0], wanted(b)[0])
	})
	return l
}

// 17.3: between drawn images, with bytes that are not there among them, wherever the power fails.
func TestFallsDrawn(t *testing.T) {
	draw := drawer(31)
	for range 30 {
		d := disk.New()
		arrivesSomehow(t, d, to(drawnWant(draw)...))
		g := to(drawnWant(draw)...).lacking(fmt.Sprint("bytes of file ", draw(9)))
		falls(t, d, g)
		run(t, d, g, draw(8))
		falls(t, d, to(drawnWant(draw)...))
	}
}

// arrivesSomehow lets a disk come to a goal.
func arrivesSomehow(t *testing.T, d *disk.Disk, g goal) {
	t.Helper()
	if _, none := run(t, d, g, 1000); !none {
		t.Fatal("some steps are left")
	}
	if !image.Same(mater.Now(d), mater.Want(g.want)) {
		t.Fatalf("%v, not %v", mater.Now(d), g.want)
	}
}

// 17.1: long drawn lives of a folder: steps, edits, losses of power, bytes that come; what stands there is always that of the chapter's words.
func TestDrawnLives(t *testing.T) {
	for seed := range 40 {
		draw := drawer(uint64(seed) + 500)
		d, g := disk.New(), to()
		for range 60 {
			switch draw(8) {
			case 0:
				g = to(drawnWant(draw)...)
			case 1:
				g = g.lacking(fmt.Sprint("bytes of file ", draw(9)))
			case 2:
				if l := mater.Now(d); len(l) > 0 {
					drop(t, d, l[draw(len(l))])
				}
			case 3:
				edit(t, d, drawnWant(draw))
			case 4:
				fail(t, d, g, draw(6))
			default:
				run(t, d, g, draw(5))
			}
		}
		arrivesSomehow(t, d, to(drawnWant(draw)...))
	}
}

// drop lets a file go; a folder is none.
func drop(t *testing.T, d *disk.Disk, f api.File) {
	t.Helper()
	files := contents(t, d)
	want := api.ErrNone
	if !f.Dir {
		want = api.OK
		delete(files, "f/"+f.Path)
	}
	told(t, "Drop", mater.Drop(d, f.Path), want)
	if !maps.Equal(contents(t, d), files) {
		t.Fatalf("Drop(%q): %q, not %q", f.Path, contents(t, d), files)
	}
}

// edit lets the files of an image be written, as far as they may be.
func edit(t *testing.T, d *disk.Disk, texts []string) {
	t.Helper()
	for _, s := range texts {
		path, bytes, _ := strings.Cut(s, "=")
		files := contents(t, d)
		want := api.ErrArg
		above := strings.LastIndex(path, "/")
		_, folder := files["d/"+path[:max(above, 0)]]
		_, taken := files["d/"+path]
		if !taken && (above < 0 || folder) && !strings.HasSuffix(path, "/") {
			want = api.OK
			files["f/"+path] = bytes
		}
		told(t, "Edit "+path, mater.Edit(d, path, bytes), want)
		if !maps.Equal(contents(t, d), files) {
			t.Fatalf("Edit(%q): %q, not %q", path, contents(t, d), files)
		}
	}
}

// fail lets the power fail at a change.
func fail(t *testing.T, d *disk.Disk, g goal, k int) {
	t.Helper()
	l := moments(contents(t, d), g)
	if k >= len(l)-1 {
		return
	}
	d.Plan([]api.Fall{{At: d.Changes() + k, Keep: k, Torn: k}})
	refused(t, d, g, 1000, api.ErrDead)
	d.Up()
	if got := contents(t, d); !maps.Equal(got, l[k].files) {
		t.Fatalf("the power failed at %d: %q, not %q", k, got, l[k].files)
	}
}

// 17.1: the images of drawn trees, one behind the other as operations come.
func TestDrawnTrees(t *testing.T) {
	for seed := range 30 {
		draw := drawer(uint64(seed) + 900)
		x, d := move.New(), disk.New()
		texts := []string{"", "one", "two", strings.Repeat("three", 1000)}
		for count := range 30 {
			s := texts[draw(len(texts))]
			o := api.Op{Kind: 1 + draw(4), Thing: uint64(16 * (1 + draw(9))), Parent: uint64(16 * draw(10)), Name: "abA."[draw(4):][:1], Dir: draw(3) > 0}
			o.At = api.Stamp{Count: uint64(1 + count)}
			if o.Kind == api.OpContent {
				m, _ := merkle.Of(s)
				o.Digest, o.Size = merkle.File(m), len(s)
			}
			x.Add(api.Entry{Op: o, Hash: "h"})
			arrivesSomehow(t, d, goal{image.Of(x), bytesOf(texts...)})
		}
	}
}
