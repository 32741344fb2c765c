package image_test

import (
	"arbour/api"
	"arbour/image"
	"arbour/move"
	"fmt"
	"slices"
	"strings"
	"testing"
)

// 15.1: the example of the chapter.
func TestExample(t *testing.T) {
	l := paths(t, tree(file(16, 0, "a"), file(32, 0, "a")), "a", "a~1")
	if l[0].ID != 16 || l[1].ID != 32 {
		t.Error(l)
	}
}

// rising is paths in order: names are held against each other one by one, so that a folder's things stand just behind it.
var rising = []string{
	"", "/", "//", "//a", "/\x00", "/a", "\x00", "\x00/a", " ", "!", "!/a", ".", "./a", "..", "../a", "0", "A", "A/z", "A~1",
	"a", "a/", "a//", "a/\x00", "a/ ", "a/ /b", "a/!", "a/A", "a/a", "a/a/", "a/a/a", "a/a/a/a", "a/a!", "a/a./a", "a/a0", "a/aa", "a/aa/a", "a/ab", "a/b", "a/b/a", "a/b!", "a/b.c", "a/~", "a/\xff",
	"a\x00", "a\x00/a", "a ", "a /b", "a b", "a!", "a!/a", "a!/b", "a!a", "a-", "a-/z", "a-b", "a.", "a./a", "a.b", "a.b/c", "a0", "a0/a", "aA", "aa", "aa/a", "aa/b", "ab", "a~", "a\x7f", "a\x80", "a\xff", "a\xff/a", "a\xff\x00",
	"b", "b/a", "b!", "z", "~", "\x7f", "\x80", "\xff", "\xff/a", "\xff\xff",
}

// 15, Words: paths that are the same, one that is the other's beginning (at a /, and in the midst of a name), bytes below / where the other one has a /, the empty path.
func TestCompare(t *testing.T) {
	for i, a := range rising {
		for j, b := range rising {
			c := image.Compare(api.File{Path: a}, api.File{Path: b})
			if i < j && c >= 0 || i == j && c != 0 || i > j && c <= 0 {
				t.Errorf("Compare(%q, %q): %d", a, b, c)
			}
			if c != compareOf(a, b) {
				t.Errorf("Compare(%q, %q): %d, not the model's %d", a, b, c, compareOf(a, b))
			}
		}
	}
}

// 15, Words: many names, which differ at the first one, in the midst, at the last one, or in how many they are.
func TestCompareMany(t *testing.T) {
	same := strings.Repeat("n/", 1000)
	names := slices.DeleteFunc(slices.Clone(rising), func(s string) bool { return strings.Contains(s, "/") })
	for i, p := range names {
		for _, q := range names[i+1:] {
			for _, c := range [][2]string{{p + "/" + same, q}, {p, q + "/" + same}, {same + p, same + q}, {p + "/" + same, q + "/" + same}, {same + p + "/" + same, same + q + "/" + same}} {
				a, b := api.File{Path: c[0]}, api.File{Path: c[1]}
				if image.Compare(a, b) >= 0 || image.Compare(b, a) <= 0 || image.Compare(a, a) != 0 {
					t.Fatalf("%q and %q, among other names: another order", p, q)
				}
			}
		}
	}
	long := api.File{Path: same + "n"}
	for n := range len(long.Path) {
		if image.Compare(long, api.File{Path: long.Path[:n]}) <= 0 || image.Compare(api.File{Path: long.Path[:n]}, long) >= 0 {
			t.Fatalf("the first %d bytes do not go ahead", n)
		}
	}
}

// 15.1: nothing but the paths is held against each other.
func TestCompareNothingElse(t *testing.T) {
	a := api.File{Path: "b", Dir: true, ID: 32, Digest: "d", Size: 5}
	for _, f := range []api.File{{}, {Dir: true}, {ID: 31, Dir: true, Digest: "d", Size: 5}, {ID: 33, Dir: true, Digest: "d", Size: 5}, {ID: 32, Digest: "c"}, {ID: 32, Digest: "e"}, {ID: 32, Size: 4}, {ID: 32, Size: 6}} {
		for path, want := range map[string]int{"a": 1, "b": 0, "c": -1} {
			f.Path = path
			if image.Compare(a, f) != want || image.Compare(f, a) != -want {
				t.Errorf("%v and %v: not %d", a, f, want)
			}
		}
	}
}

// 15, Words: drawn paths against the model's order, which is one.
func TestCompareDrawn(t *testing.T) {
	draw := drawer(15)
	path := func() string {
		s := ""
		for range draw(7) {
			s += []string{"/", "a", "b", ".", "!", "a/", string([]byte{byte(draw(256))})}[draw(7)]
		}
		return s
	}
	less := 0
	for range 50000 {
		a, b := path(), path()
		c := image.Compare(api.File{Path: a}, api.File{Path: b})
		if c != compareOf(a, b) {
			t.Fatalf("Compare(%q, %q): %d", a, b, c)
		}
		if (c < 0) != (a < b) {
			less++
		}
	}
	if less < 500 {
		t.Errorf("%d pairs alone stand otherwise than their bytes", less)
	}
}

// 15.1: no tree, a tree of nothing, one that New did not make.
func TestOfNothing(t *testing.T) {
	for _, x := range []*move.Tree{nil, move.New(), {}, tree(deleted(16), moved(16, 0, "a"), file(16, 32, "a"))} {
		paths(t, x)
	}
}

// 15.1: one thing below Root, several; files and folders, with what is told of them.
func TestOf(t *testing.T) {
	paths(t, tree(file(16, 0, "a")), "a")
	paths(t, tree(dir(16, 0, "a")), "a/")
	x := tree(dir(64, 0, "b"), file(48, 0, "c"), file(32, 0, "a"), file(16, 64, "d"), content(48, "c", 77), content(16, "d", 8192), content(64, "b", 3))
	l := paths(t, x, "a", "b/", "b/d", "c")
	want := []api.File{
		{Path: "a", ID: 32},
		{Path: "b", Dir: true, ID: 64},
		{Path: "b/d", ID: 16, Digest: strings.Repeat("d", 32), Size: 8192},
		{Path: "c", ID: 48, Digest: strings.Repeat("c", 32), Size: 77},
	}
	if !slices.Equal(l, want) {
		t.Errorf("%v, not %v", l, want)
	}
	x.Add(entry(99, content(48, "e", 0)))
	if f := of(t, x)[3]; f != (api.File{Path: "c", ID: 48, Digest: strings.Repeat("e", 32)}) {
		t.Errorf("other bytes: %v", f)
	}
}

// 15.1: folders within folders, and what stands beside them: name by name.
func TestOfOrder(t *testing.T) {
	x := tree(
		dir(16, 0, "d"), dir(32, 16, "e"), dir(48, 32, "f"), file(64, 48, "g"), file(80, 32, "z"), file(96, 16, "E!"), file(112, 16, "a"),
		dir(128, 0, "d!"), file(144, 128, "a"), dir(160, 0, "d.x"), file(176, 160, "a"), file(192, 0, "d0"), file(208, 0, "B"), dir(224, 0, "dd"), dir(240, 224, "d"), file(256, 0, "~"))
	paths(t, x, "B", "d/", "d/E!", "d/a", "d/e/", "d/e/f/", "d/e/f/g", "d/e/z", "d!/", "d!/a", "d.x/", "d.x/a", "d0", "dd/", "dd/d/", "~")
}

// 15, Words: names that are the same, or but for great and small letters, in one folder and in two; the lesser number has the name.
func TestOfSameNames(t *testing.T) {
	x := tree(dir(16, 0, "d"), file(48, 16, "a"), file(64, 16, "a"), file(80, 16, "A"), dir(32, 0, "D"), file(96, 32, "a"), file(112, 32, "A"), file(128, 0, "a"))
	l := paths(t, x, "D~1/", "D~1/A~1", "D~1/a", "a", "d/", "d/A~2", "d/a", "d/a~1")
	var ids []uint64
	for _, f := range l {
		ids = append(ids, f.ID)
	}
	if !slices.Equal(ids, []uint64{32, 112, 96, 128, 16, 80, 48, 64}) {
		t.Error(ids)
	}
	paths(t, tree(file(16, 0, "a"), file(32, 0, "A"), file(48, 0, "a~1")), "A~1", "a", "a~1~1")
	paths(t, tree(file(48, 0, "a"), file(32, 0, "A"), file(16, 0, "a~1")), "A", "a~1", "a~2")
}

// 15, Words: names that must be fixed, and are the same then.
func TestOfFixed(t *testing.T) {
	long := strings.Repeat("n", 33)
	x := tree(dir(16, 0, "a/b"), file(32, 16, ""), file(48, 16, ".."), file(64, 16, "."), file(80, 16, "\xff"), file(96, 0, "a b"), file(112, 0, "a\\b"), file(128, 16, long), file(144, 16, long), dir(160, 0, "A:B."))
	paths(t, x, "A_B_/", "a_b/", "a_b/._", "a_b/_", "a_b/_~1", "a_b/_~2", "a_b/"+long[:32], "a_b/"+long[:30]+"~1", "a_b~1", "a_b~2")
}

// 15, Words: what lies below Trash, at whatever depth, is not in the image, and has no name there; what comes out of it is again.
func TestOfTrash(t *testing.T) {
	x := tree(dir(16, 0, "d"), dir(32, 16, "e"), file(48, 32, "f"), file(64, 0, "f"), file(80, 0, "F"), dir(96, 0, "d"))
	paths(t, x, "F~1", "d/", "d/e/", "d/e/f", "d~1/", "f")
	x.Add(entry(10, deleted(16)))
	x.Add(entry(11, deleted(64)))
	paths(t, x, "F", "d/")
	x.Add(entry(12, moved(48, 0, "f")))
	paths(t, x, "F~1", "d/", "f")
	x.Add(entry(13, moved(80, 32, "F")))
	paths(t, x, "d/", "f")
	x.Add(entry(14, moved(16, 96, "d")))
	paths(t, x, "d/", "d/d/", "d/d/e/", "d/d/e/F", "f")
	for i, id := range []uint64{48, 96} {
		x.Add(entry(20+i, deleted(id)))
	}
	paths(t, x)
}

// 15, Words: names are assigned in the order of the numbers, whatever the order in which the operations came, or of their times.
func TestOfNumbers(t *testing.T) {
	all := []api.Entry{
		entry(9, file(16, 0, "a")), entry(8, file(32, 0, "A")), entry(7, file(48, 0, "a")), entry(6, dir(64, 0, "a")),
		entry(10, file(80, 64, "b")), entry(11, file(96, 64, "B")), entry(12, moved(48, 64, "b")), entry(13, content(96, "d", 4)),
	}
	draw := drawer(4)
	for range 200 {
		x := move.New()
		for i := range all {
			k := i + draw(len(all)-i)
			all[i], all[k] = all[k], all[i]
			x.Add(all[i])
		}
		l := paths(t, x, "A~1", "a", "a~2/", "a~2/B~2", "a~2/b", "a~2/b~1")
		if l[0].ID != 32 || l[1].ID != 16 || l[2].ID != 64 || l[3].ID != 96 || l[4].ID != 48 || l[5].ID != 80 || l[3].Size != 4 {
			t.Fatal(l)
		}
	}
	x := tree(file(1<<64-1, 0, "a"), file(1<<63, 0, "a"), file(9, 0, "a"), file(10, 0, "a"), file(2, 0, "a"))
	for i, f := range paths(t, x, "a", "a~1", "a~2", "a~3", "a~4") {
		if f.ID != []uint64{2, 9, 10, 1 << 63, 1<<64 - 1}[i] {
			t.Error(i, f)
		}
	}
}

// chain is folders of 32 bytes, each in the one ahead of it, of which the last one's path has 230 bytes: the operations, that path, and its number.
func chain() ([]api.Op, string, uint64) {
	var all []api.Op
	id, path := uint64(0), ""
	for i := range 7 {
		own := strings.Repeat(string(rune('a'+i)), 32)
		all = append(all, dir(id+16, id, own))
		id, path = id+16, path+"/"+own
	}
	return all, path[1:], id
}

// 15, Words: a path of MaxPath - 2 bytes is told; one of a byte more is left out, with all below, and nothing else is.
func TestOfLengths(t *testing.T) {
	if api.MaxPath-2 != pathMost {
		t.Fatal(api.MaxPath)
	}
	all, path, last := chain()
	var above []string
	for i := range 7 {
		above = append(above, path[:33*(i+1)-1]+"/")
	}
	all = append(all, file(800, last, "8901234"), file(816, last, "89012345"), dir(832, last, "89012345"), file(848, 832, "n"), dir(864, 848, "n"), file(880, last, "n"), file(896, 0, "z"))
	l := paths(t, tree(all...), append(above, path+"/8901234", path+"/n", "z")...)
	if n := len(l[7].Path); n != pathMost {
		t.Fatalf("%d bytes", n)
	}
	// A folder of just so many bytes is told, with nothing below it.
	all = append(all, dir(912, last, "A901234"), file(928, 912, "n"))
	paths(t, tree(all...), append(above, path+"/8901234", path+"/A901234/", path+"/n", "z")...)
	// A name that had to be numbered may be too long for that alone, and has its number none the less.
	all = append(all, file(944, last, "N"), file(960, last, "a90123"), file(976, last, "A90123"), file(992, last, "aa901"), file(1008, last, "AA901"))
	paths(t, tree(all...), append(above, path+"/8901234", path+"/A901234/", path+"/AA901~1", path+"/N~1", path+"/a90123", path+"/aa901", path+"/n", "z")...)
}

// 15, Words: where things are left out, the others of their folder have the names that they would have; nearer to the root all of them are told.
func TestOfLeftOutNames(t *testing.T) {
	all, path, last := chain()
	all = append(all, file(800, last, "a9012345"), file(816, last, "A9012345"), file(832, last, "n"), file(848, last, "n"), file(864, last, "n~1"))
	l := of(t, tree(all...))
	if got := marked(l)[7:]; !slices.Equal(got, []string{path + "/n", path + "/n~1", path + "/n~1~1"}) {
		t.Errorf("%q", got)
	}
	x := tree(all...)
	x.Add(entry(99, moved(last, 0, "near")))
	if got := marked(of(t, x))[6:]; !slices.Equal(got, []string{"near/", "near/A9012345~1", "near/a9012345", "near/n", "near/n~1", "near/n~1~1"}) {
		t.Errorf("%q", got)
	}
}

// 15, Words: where one name is too long, another one of the same folder and its things are told; each byte more of the folders above counts.
func TestOfEachLength(t *testing.T) {
	for n := range 40 {
		all, path, last := chain()
		own := strings.Repeat("x", n%33)
		if n >= 33 {
			own = strings.Repeat("y", n)
		}
		all = append(all, dir(800, last, own), file(816, 800, "f"), file(832, last, "k"))
		want := []string{path + "/k"}
		if kept := max(1, min(n, 32)); 230+1+kept <= pathMost {
			own = strings.Repeat("x", n) + strings.Repeat("_", kept-n)
			want = append(want, path+"/"+own+"/")
			if 230+1+kept+2 <= pathMost {
				want = append(want, path+"/"+own+"/f")
			}
		}
		slices.Sort(want)
		if got := marked(of(t, tree(all...)))[7:]; !slices.Equal(got, want) {
			t.Fatalf("%d bytes: %q, not %q", n, got, want)
		}
	}
}

// 15.1: folders one in another, far deeper than a path may be, and many things in one folder.
func TestOfMany(t *testing.T) {
	var deep, wide []api.Op
	for i := range 3000 {
		deep = append(deep, dir(uint64(i+16), parent(i), "n"))
		wide = append(wide, file(uint64(i+16), 0, "n"))
	}
	l := image.Of(tree(deep...))
	told(t, l)
	if len(l) != 119 || l[118].Path != strings.Repeat("n/", 118)+"n" || l[118].ID != 134 {
		t.Errorf("%d folders", len(l))
	}
	l = image.Of(tree(wide...))
	told(t, l)
	if f, is := image.Find(l, "n~2999"); len(l) != 3000 || !is || f.ID != 3015 {
		t.Errorf("%d files, %v", len(l), f)
	}
}

// parent is that of folder i in a row of folders one in another.
func parent(i int) uint64 {
	if i == 0 {
		return api.Root
	}
	return uint64(i + 15)
}

// 15.1: drawn trees against the chapter's words; and the same operations in another order come to the same image.
func TestOfDrawn(t *testing.T) {
	files, numbered, outside := 0, 0, 0
	for seed := range 600 {
		x := drawnTree(drawer(uint64(seed) + 1))
		l := of(t, x)
		files += len(l)
		outside += len(slices.Collect(x.All())) - len(l)
		for _, f := range l {
			if strings.Contains(f.Path, "~") {
				numbered++
			}
		}
		again := move.New()
		for _, e := range slices.Backward(x.Log()) {
			again.Add(e)
		}
		if !slices.Equal(image.Of(again), l) {
			t.Fatalf("seed %d: another image of the same operations", seed)
		}
	}
	if files < 2000 || numbered < 500 || outside < 500 {
		t.Errorf("%d files, %d with numbers, %d things that are left out", files, numbered, outside)
	}
}

// R4: the same is told each time.
func TestOfAgain(t *testing.T) {
	x := drawnTree(drawer(99))
	first := fmt.Sprint(image.Of(x))
	for range 50 {
		if fmt.Sprint(image.Of(x)) != first {
			t.Fatal("another image of the same tree")
		}
	}
}

// R2: what is done to the tree later changes nothing of what was told.
func TestOfKeeps(t *testing.T) {
	x := tree(dir(16, 0, "a"), file(32, 16, "b"))
	l := image.Of(x)
	x.Add(entry(5, content(32, "d", 3)))
	x.Add(entry(6, moved(32, 0, "c")))
	if !slices.Equal(l, []api.File{{Path: "a", Dir: true, ID: 16}, {Path: "a/b", ID: 32}}) {
		t.Error(l)
	}
	paths(t, x, "a/", "c")
}
