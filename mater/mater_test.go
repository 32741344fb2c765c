package mater_test

import (
	"arbour/api"
	"arbour/disk"
	"arbour/mater"
	"arbour/merkle"
	"maps"
	"slices"
	"strings"
	"testing"
)

// dead is a disk with these files that has no power.
func dead(t *testing.T, files ...string) *disk.Disk {
	t.Helper()
	d := with(t, files...)
	d.Crash(0, 0)
	return d
}

// kept wants that a disk has its files behind a loss of power, too.
func kept(t *testing.T, d *disk.Disk, files ...string) {
	t.Helper()
	has(t, d, files...)
	d.Crash(0, 0)
	if !d.Up() {
		t.Fatal("the power did not fail")
	}
	has(t, d, files...)
}

// 17, the chapter's example: a file that is wanted, and whose bytes are not there.
func TestExample(t *testing.T) {
	d := disk.New()
	g := to("a=text").lacking("text")
	arrives(t, d, g, 0)
	has(t, d)
}

// 17.1, Now: nothing there.
func TestNowNothing(t *testing.T) {
	now(t, disk.New(), nil)
	now(t, &disk.Disk{}, nil)
}

// 17.1, Now: files and folders, in order, with ID 0; a file without bytes has no digest, another one its merkle.File.
func TestNow(t *testing.T) {
	d := with(t, "f/a", "", "f/b", "text", "d/c", "", "d/c/d", "", "f/c/d/e", "\x00", "f/c/!", "text", "d/c!", "", "f/c!/x", "y", "f/Z", "other")
	m, _ := merkle.Of("text")
	text := merkle.File(m)
	now(t, d, []api.File{
		{Path: "Z", Digest: digest("other"), Size: 5},
		{Path: "a"},
		{Path: "b", Digest: text, Size: 4},
		{Path: "c", Dir: true},
		{Path: "c/!", Digest: text, Size: 4},
		{Path: "c/d", Dir: true},
		{Path: "c/d/e", Digest: digest("\x00"), Size: 1},
		{Path: "c!", Dir: true},
		{Path: "c!/x", Digest: digest("y"), Size: 1},
	})
}

// 17.1, Now: files of all sizes have the digests of their chunks.
func TestNowSizes(t *testing.T) {
	draw := drawer(17)
	for _, size := range []int{0, 1, 2, 63, 64, 65, 511, 512, 513, 4096, fileMost - 1, fileMost} {
		s := drawnBytes(draw, size)
		m, e := merkle.Of(s)
		told(t, "Of", e, api.OK)
		want := api.File{Path: "a", Digest: merkle.File(m), Size: size}
		if size == 0 {
			want.Digest = ""
		}
		now(t, with(t, "f/a", s), []api.File{want})
	}
}

// 17, Words: what stands there is told of what was written, sure or not.
func TestNowLoose(t *testing.T) {
	d := with(t, "f/a", "old")
	d.Write("f/a", "new")
	d.Append("f/b", "more")
	d.Write("d/c", "")
	stands(t, d, "a=new", "b=more", "c/")
}

// 17.1, Now: other names on the disk are neither files nor folders.
func TestNowOtherNames(t *testing.T) {
	d := with(t, "t/0", "text", "t/1", "", "t/f/a", "x", "log.1", "x", "f", "x", "d", "", "t", "", "a", "", "F/a", "x", "D/a", "",
		"ff/a", "x", "/f/a", "x", "x/f/a", "x", "fd/a", "", "f.a", "x", "d.a", "", "df/", "")
	now(t, d, nil)
	told(t, "Write", d.Write("f/a", "x"), api.OK)
	stands(t, d, "a=x")
	standing(t, d, to("a=x"), true)
}

// 17, Words: paths whose parts begin as names on the disk do.
func TestNowMarks(t *testing.T) {
	d := with(t, "f/f", "1", "d/d", "", "f/d/f", "2", "d/d/d", "", "d/t", "", "f/t/0", "3")
	stands(t, d, "d/", "d/d/", "d/f=2", "f=1", "t/", "t/0=3")
}

// 17.1, Now: a file and a folder of one path both stand there; paths that may not be do, too.
func TestNowOddPaths(t *testing.T) {
	d := with(t, "f/a", "1", "d/a", "", "f/b/c", "2", "f/d.", "3", "f/e//g", "4", "d/:", "")
	l := mater.Now(d)
	want := []api.File{
		{Path: ":", Dir: true},
		{Path: "a", Dir: true},
		{Path: "a", Digest: digest("1"), Size: 1},
		{Path: "b/c", Digest: digest("2"), Size: 1},
		{Path: "d.", Digest: digest("3"), Size: 1},
		{Path: "e//g", Digest: digest("4"), Size: 1},
	}
	if !slices.Equal(l, want) {
		t.Errorf("%v", l)
	}
}

// 17.1, Now: no disk, and one without power.
func TestNowDead(t *testing.T) {
	if l := mater.Now(nil); len(l) != 0 {
		t.Error(l)
	}
	d := dead(t, "f/a", "text", "f/b", "", "d/c", "")
	if l := mater.Now(d); len(l) != 0 {
		t.Error(l)
	}
	d.Up()
	stands(t, d, "a=text", "b", "c/")
}

// A file that has more bytes than one may have is never the one that is wanted, and other bytes may take its place.
func TestTooManyBytes(t *testing.T) {
	long := strings.Repeat("x", fileMost+1)
	d := with(t, "f/a", long)
	l := mater.Now(d)
	if len(l) != 1 || l[0].Path != "a" || l[0].Digest == "" || l[0].Size != len(long) {
		t.Fatal(l)
	}
	for _, g := range []goal{to(), to("a"), to("a=text")} {
		c := d.Clone()
		if mater.Stands(c, g.want, g.get) {
			t.Error("it stands as it should")
		}
		if n, none, e := mater.Run(c, g.want, g.get, 9); n != 1 || !none || e != api.OK {
			t.Error(n, none, int(e))
		}
		standing(t, c, g, true)
	}
}

// want wants what is to stand there of an image, twice: what was told is the caller's, and is changed by him.
func want(t *testing.T, l, wanted []api.File) {
	t.Helper()
	before := slices.Clone(l)
	for range 2 {
		got := mater.Want(l)
		if !slices.Equal(got, wanted) {
			t.Fatalf("Want(%v): %v, not %v", l, got, wanted)
		}
		clear(got)
		_ = append(got, api.File{Path: "spoilt"})
		if !slices.Equal(l, before) {
			t.Fatal("the image was changed")
		}
	}
}

// 17.1, Want: the digest of no bytes counts as none; all else is as it was.
func TestWant(t *testing.T) {
	want(t, nil, nil)
	want(t, []api.File{}, nil)
	nothing := digest("")
	if nothing == "" || nothing != merkle.File(api.Manifest{}) {
		t.Fatal("no bytes have no digest")
	}
	want(t, []api.File{{Path: "a", ID: 16, Digest: nothing}}, []api.File{{Path: "a", ID: 16}})
	l := []api.File{
		{Path: "a", Dir: true, ID: 160},
		{Path: "a/b", ID: 33, Digest: digest("text"), Size: 4},
		{Path: "a/c", ID: 48, Digest: nothing},
		{Path: "d", ID: 64},
		{Path: "e", ID: 65, Digest: nothing, Size: 7},
		{Path: "f", ID: 66, Digest: nothing[:31]},
		{Path: "g", ID: 67, Digest: nothing + "\x00"},
		{Path: "h", ID: 68, Digest: digest("x"), Size: 1},
	}
	wanted := slices.Clone(l)
	wanted[2].Digest, wanted[4].Digest = "", ""
	want(t, l, wanted)
	want(t, wanted, wanted)
}

// 17.1, Want: folders have no digests, and stay as they are.
func TestWantFolders(t *testing.T) {
	l := wanted("a/", "a/b/", "a/b/c/", "d/")
	want(t, l, l)
}

// 17.1, Clean: all files that begin with t/ go, all others stay.
func TestClean(t *testing.T) {
	rest := []string{"f/a", "text", "d/b", "", "f/t/0", "x", "d/t", "", "log.1", "records", "t", "1", "t.0", "2", "tt/0", "3", "T/0", "4", "x/t/0", "5"}
	d := with(t, append([]string{"t/0", "text", "t/1", "", "t/a/b", "x", "t/", "y"}, rest...)...)
	before := d.Changes()
	told(t, "Clean", mater.Clean(d), api.OK)
	has(t, d, rest...)
	if d.Changes()-before != 4 {
		t.Errorf("%d changes", d.Changes()-before)
	}
	told(t, "Clean again", mater.Clean(d), api.OK)
	kept(t, d, rest...)
	if d.Changes()-before != 4 {
		t.Errorf("%d changes", d.Changes()-before)
	}
}

// 17.1, Clean: Sync, also where nothing is there that begins with t/.
func TestCleanSettles(t *testing.T) {
	d := disk.New()
	told(t, "Clean", mater.Clean(d), api.OK)
	for _, name := range []string{"t/0", "f/a"} {
		told(t, "Write", d.Write(name, "x"), api.OK)
		told(t, "Write", d.Write("f/b", name), api.OK)
		told(t, "Clean", mater.Clean(d), api.OK)
		if d.Loose() != 0 {
			t.Fatal(d.Loose())
		}
	}
	kept(t, d, "f/a", "x", "f/b", "f/a")
}

// 17.1, Clean: the disk's error.
func TestCleanErrors(t *testing.T) {
	told(t, "Clean of no disk", mater.Clean(nil), api.ErrDead)
	told(t, "Clean without power", mater.Clean(dead(t)), api.ErrDead)
	told(t, "Clean without power", mater.Clean(dead(t, "t/0", "x", "f/a", "y")), api.ErrDead)
	for k := range 3 {
		d := with(t, "t/0", "x", "t/1", "y", "t/2", "z", "f/a", "text")
		d.Plan([]api.Fall{{At: d.Changes() + k}})
		told(t, "Clean as the power fails", mater.Clean(d), api.ErrDead)
		d.Up()
		files := contents(t, d)
		if len(files) != 4-k || files["f/a"] != "text" {
			t.Errorf("%d: %q", k, files)
		}
		told(t, "Clean behind the fall", mater.Clean(d), api.OK)
		kept(t, d, "f/a", "text")
	}
	// No room is no matter.
	d := with(t, "t/0", "x")
	d.Room(0)
	told(t, "Clean", mater.Clean(d), api.OK)
	has(t, d)
}

// read wants what is told of a file.
func read(t *testing.T, d *disk.Disk, path, want string, wanted api.Errno) {
	t.Helper()
	for range 2 {
		if s, e := mater.Read(d, path); s != want || e != wanted {
			t.Fatalf("Read(%q): %q, %d; not %q, %d", path, s, int(e), want, int(wanted))
		}
	}
}

// 17.2, Read: files, wherever they stand, with bytes and without; what is not there; folders.
func TestRead(t *testing.T) {
	d := with(t, "f/a", "text", "f/b", "", "d/c", "", "f/c/a", "other", "t/0", "aside", "f/long", strings.Repeat("y", fileMost))
	read(t, d, "a", "text", api.OK)
	read(t, d, "b", "", api.OK)
	read(t, d, "c/a", "other", api.OK)
	read(t, d, "long", strings.Repeat("y", fileMost), api.OK)
	for _, path := range []string{"c", "d", "A", "c/b", "a/a", "0", "t/0", "f/a", "/a", "a/", "", "..", "c:"} {
		read(t, d, path, "", api.ErrNone)
	}
	told(t, "Write", d.Write("f/a", "not sure"), api.OK)
	read(t, d, "a", "not sure", api.OK)
}

// 17.2, Read: the disk's errors.
func TestReadErrors(t *testing.T) {
	d := with(t, "f/a", "text")
	long := strings.Repeat("n", 238)
	read(t, d, long, "", api.ErrNone)
	for _, path := range []string{long + "n", "a b", "\x00", "\xff", strings.Repeat("n", 10000)} {
		read(t, d, path, "", api.ErrName)
	}
	d.Crash(0, 0)
	for _, path := range []string{"a", "b", "", "a b"} {
		read(t, d, path, "", api.ErrDead)
		read(t, nil, path, "", api.ErrDead)
	}
}

// 17.2, Edit: files that are there, and such that are not; their bytes are there behind a loss of power.
func TestEdit(t *testing.T) {
	d := with(t, "d/b", "")
	told(t, "Edit", mater.Edit(d, "a", "one"), api.OK)
	kept(t, d, "d/b", "", "f/a", "one")
	told(t, "Edit", mater.Edit(d, "b/c", "two"), api.OK)
	kept(t, d, "d/b", "", "f/a", "one", "f/b/c", "two")
	told(t, "Edit again", mater.Edit(d, "a", "three"), api.OK)
	kept(t, d, "d/b", "", "f/a", "three", "f/b/c", "two")
	told(t, "Edit to fewer", mater.Edit(d, "a", "x"), api.OK)
	told(t, "Edit to the same", mater.Edit(d, "a", "x"), api.OK)
	kept(t, d, "d/b", "", "f/a", "x", "f/b/c", "two")
	read(t, d, "a", "x", api.OK)
	read(t, d, "b/c", "two", api.OK)
}

// 17.2, Edit: it is written at once: one change of the disk.
func TestEditChanges(t *testing.T) {
	d := with(t, "f/a", "old", "t/0", "aside")
	before := d.Changes()
	told(t, "Edit", mater.Edit(d, "a", "new"), api.OK)
	told(t, "Edit", mater.Edit(d, "b", ""), api.OK)
	if d.Changes()-before != 2 {
		t.Errorf("%d changes", d.Changes()-before)
	}
	has(t, d, "f/a", "new", "f/b", "", "t/0", "aside")
}

// 17.2, Edit: no bytes, MaxFile bytes and one more.
func TestEditSizes(t *testing.T) {
	most := strings.Repeat("x", fileMost)
	d := disk.New()
	told(t, "Edit to nothing", mater.Edit(d, "a", ""), api.OK)
	kept(t, d, "f/a", "")
	told(t, "Edit to MaxFile bytes", mater.Edit(d, "a", most), api.OK)
	kept(t, d, "f/a", most)
	told(t, "Edit to one more", mater.Edit(d, "a", most+"x"), api.ErrArg)
	told(t, "Edit to one more", mater.Edit(d, "b", most+"x"), api.ErrArg)
	told(t, "Edit to twice as many", mater.Edit(d, "a", most+most), api.ErrArg)
	has(t, d, "f/a", most)
	told(t, "Edit to nothing", mater.Edit(d, "a", ""), api.OK)
	kept(t, d, "f/a", "")
}

// 17.2, Edit: a path that may not be put there.
func TestEditPaths(t *testing.T) {
	files := []string{"f/a", "text", "d/b", "", "d/b/c", "", "f/b/c/d", "x", "d/e", ""}
	d := with(t, files...)
	long := strings.Repeat("n", 32)
	for _, path := range []string{
		"b", "b/c", "e", // folders
		"a/x", "x/y", "b/x/y", "E/x", "b/c/d/e", "t/0", // the folder is not there
		"", "/", "a/", "/a", "b//x", "b/", "e/x.", ".", "..", "e/..", "a b", "e/\x00", "x\\", "c:", "\xff", long + "n", "e/" + long + "n", // no names
	} {
		before := d.Changes()
		told(t, "Edit "+path, mater.Edit(d, path, "x"), api.ErrArg)
		if d.Changes() != before {
			t.Errorf("Edit %q: a change", path)
		}
	}
	has(t, d, files...)
	for _, path := range []string{"a", "x", "b/x", "b/a", "b/c/d", "e/a", "A", long, "e/" + long, "a~1"} {
		told(t, "Edit "+path, mater.Edit(d.Clone(), path, "x"), api.OK)
	}
}

// 17.2, Edit: the longest path that may be.
func TestEditLongPath(t *testing.T) {
	d, folder := disk.New(), ""
	for len(folder) < 210 {
		folder += strings.Repeat("n", 29)
		told(t, "Write", d.Write("d/"+folder, ""), api.OK)
		folder += "/"
	}
	path := folder + strings.Repeat("x", 238-len(folder))
	told(t, "Edit", mater.Edit(d, path, "text"), api.OK)
	read(t, d, path, "text", api.OK)
	told(t, "Edit", mater.Edit(d, path+"x", "text"), api.ErrArg)
	arrives(t, d, goal{mater.Now(d), nobody}, 0)
	told(t, "Drop", mater.Drop(d, path), api.OK)
	told(t, "Drop", mater.Drop(d, path+"x"), api.ErrName)
}

// nobody has no bytes.
func nobody(string) (string, bool) { return "", false }

// 17.2, Edit: the disk's errors; ErrArg goes ahead of them.
func TestEditErrors(t *testing.T) {
	d := with(t, "f/a", "text", "d/b", "")
	d.Room(4)
	told(t, "Edit without room", mater.Edit(d, "a", "texts"), api.ErrFull)
	told(t, "Edit without room", mater.Edit(d, "b/c", "x"), api.ErrFull)
	told(t, "Edit", mater.Edit(d, "a", "1234"), api.OK)
	told(t, "Edit to nothing", mater.Edit(d, "b/c", ""), api.OK)
	told(t, "Edit of a folder without room", mater.Edit(d, "b", "x"), api.ErrArg)
	has(t, d, "f/a", "1234", "d/b", "", "f/b/c", "")
	d.Plan([]api.Fall{{At: d.Changes(), Keep: 9, Torn: 9}})
	told(t, "Edit as the power fails", mater.Edit(d, "a", "new"), api.ErrDead)
	for _, path := range []string{"a", "c", "b/c", "b/x"} {
		told(t, "Edit without power", mater.Edit(d, path, "x"), api.ErrDead)
	}
	for _, path := range []string{"", "b", "x/y", "a."} {
		told(t, "Edit of a wrong path without power", mater.Edit(d, path, "x"), api.ErrArg)
	}
	told(t, "Edit to too many bytes without power", mater.Edit(d, "a", strings.Repeat("x", fileMost+1)), api.ErrArg)
	d.Up()
	has(t, d, "f/a", "1234", "d/b", "", "f/b/c", "")
	told(t, "Edit of no disk", mater.Edit(nil, "a", "x"), api.ErrDead)
	told(t, "Edit of no disk", mater.Edit(nil, "a/b", "x"), api.ErrArg)
}

// 17.2, Drop: files, wherever they stand; they are gone behind a loss of power.
func TestDrop(t *testing.T) {
	d := with(t, "f/a", "text", "f/b", "", "d/c", "", "f/c/a", "other", "t/0", "aside")
	before := d.Changes()
	told(t, "Drop", mater.Drop(d, "a"), api.OK)
	kept(t, d, "f/b", "", "d/c", "", "f/c/a", "other", "t/0", "aside")
	told(t, "Drop", mater.Drop(d, "b"), api.OK)
	told(t, "Drop", mater.Drop(d, "c/a"), api.OK)
	kept(t, d, "d/c", "", "t/0", "aside")
	if d.Changes()-before != 3 {
		t.Errorf("%d changes", d.Changes()-before)
	}
	told(t, "Drop again", mater.Drop(d, "a"), api.ErrNone)
	read(t, d, "a", "", api.ErrNone)
}

// 17.2, Drop: Sync, so that what was written ahead of it is sure, too.
func TestDropSettles(t *testing.T) {
	d := with(t, "f/a", "text")
	told(t, "Write", d.Write("f/b", "x"), api.OK)
	told(t, "Drop", mater.Drop(d, "a"), api.OK)
	kept(t, d, "f/b", "x")
	told(t, "Write", d.Write("f/b", "y"), api.OK)
	told(t, "Edit", mater.Edit(d, "c", "z"), api.OK)
	kept(t, d, "f/b", "y", "f/c", "z")
}

// 17.2, Drop: what is not there, folders, names that may not be, no power.
func TestDropErrors(t *testing.T) {
	files := []string{"f/a", "text", "d/b", "", "d/c", "", "f/c/a", "x", "t/0", "aside"}
	d := with(t, files...)
	for _, path := range []string{"b", "c", "d", "A", "c/b", "a/a", "0", "t/0", "/a", "a/", "", "f/a"} {
		told(t, "Drop "+path, mater.Drop(d, path), api.ErrNone)
	}
	for _, path := range []string{"a b", "\x00", "\xff", strings.Repeat("n", 239)} {
		told(t, "Drop "+path, mater.Drop(d, path), api.ErrName)
	}
	has(t, d, files...)
	d.Plan([]api.Fall{{At: d.Changes()}})
	told(t, "Drop as the power fails", mater.Drop(d, "a"), api.ErrDead)
	for _, path := range []string{"a", "b", "", "a b"} {
		told(t, "Drop without power", mater.Drop(d, path), api.ErrDead)
		told(t, "Drop of no disk", mater.Drop(nil, path), api.ErrDead)
	}
	d.Up()
	has(t, d, files...)
}

// What somebody else does is what stands there then, and is not as it is wanted; the next steps undo it.
func TestEditRun(t *testing.T) {
	d, g := disk.New(), to("a/", "a/b=text", "c")
	arrives(t, d, g, 3)
	for _, spoil := range []func() api.Errno{
		func() api.Errno { return mater.Edit(d, "a/b", "other") },
		func() api.Errno { return mater.Edit(d, "c", "more") },
		func() api.Errno { return mater.Edit(d, "a/x", "new") },
		func() api.Errno { return mater.Drop(d, "a/b") },
		func() api.Errno { return mater.Drop(d, "c") },
	} {
		told(t, "spoilt", spoil(), api.OK)
		arrives(t, d, g, 1)
		has(t, d, "d/a", "", "f/a/b", "text", "f/c", "")
	}
	if got := contents(t, d); !maps.Equal(got, map[string]string{"d/a": "", "f/a/b": "text", "f/c": ""}) {
		t.Error(got)
	}
}
