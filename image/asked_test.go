package image_test

import (
	"arbour/api"
	"arbour/image"
	"arbour/name"
	"slices"
	"strings"
	"testing"
)

// grown is an image with folders in folders, one of nothing, files, and names that begin as others do.
func grown(t *testing.T) []api.File {
	t.Helper()
	x := tree(
		dir(16, 0, "d"), dir(32, 16, "e"), file(48, 32, "f"), file(64, 16, "z"), file(80, 16, "A"), dir(96, 16, "none"),
		dir(112, 0, "d!"), file(128, 112, "x"), file(144, 0, "dd"), file(160, 0, "d"), dir(176, 0, "D"), content(160, "q", 7), file(192, 16, "e.f"))
	return paths(t, x, "D~2/", "d/", "d/A", "d/e/", "d/e/f", "d/e.f", "d/none/", "d/z", "d!/", "d!/x", "dd", "d~1")
}

// absent is paths that grown does not have.
var absent = []string{
	"/", "//", "D", "D~2/", "/d", "d/", "d//", "d/a", "d/E", "e", "d/e/", "d/e/f/", "d/e/f/g", "d//e", "/d/e", "d/e/F", "f", "e/f", "d/none/", "d/none/x", "d/z/", "d/y", "d!x", "d!/", "x",
	"d~", "d~1/", "d~2", "dd/d", "D~2/d", ".", "..", "d/.", "d/..", "d/../d", "d\x00", "d ", "\xff", "c", "zz", strings.Repeat("a/", 1000),
}

// 15.1: each path of an image, with all that is told of it; nothing else is found.
func TestFind(t *testing.T) {
	l := grown(t)
	before := slices.Clone(l)
	for i, want := range before {
		f, is := image.Find(l, want.Path)
		if f != want || !is {
			t.Errorf("Find(%q), the one at %d: %v, %t", want.Path, i, f, is)
		}
	}
	if f, is := image.Find(l, "d~1"); !is || f != (api.File{Path: "d~1", ID: 160, Digest: strings.Repeat("q", 32), Size: 7}) {
		t.Error(f)
	}
	for _, path := range append(absent, "") {
		if f, is := image.Find(l, path); f != (api.File{}) || is {
			t.Errorf("Find(%.50q): %v, %t", path, f, is)
		}
	}
	if !slices.Equal(l, before) {
		t.Error("the image was changed")
	}
}

// 15.1: in no image nothing is found.
func TestFindNoImage(t *testing.T) {
	for _, l := range [][]api.File{nil, {}} {
		for _, path := range append(absent, "", "d", "d/e/f") {
			if f, is := image.Find(l, path); f != (api.File{}) || is {
				t.Errorf("Find(%.50q): %v, %t", path, f, is)
			}
		}
	}
}

// listed wants the names below a folder, twice: what was told is the caller's, and is changed by him.
func listed(t *testing.T, l []api.File, path string, want ...string) {
	t.Helper()
	before := slices.Clone(l)
	for range 2 {
		names, is := image.List(l, path)
		if !slices.Equal(names, want) || !is {
			t.Fatalf("List(%q): %q, %t; not %q", path, names, is, want)
		}
		clear(names)
		_ = append(names, "spoilt")
	}
	if !slices.Equal(l, before) {
		t.Fatal("the image was changed")
	}
}

// unlisted wants that there is no such folder.
func unlisted(t *testing.T, l []api.File, path string) {
	t.Helper()
	if names, is := image.List(l, path); len(names) != 0 || is {
		t.Errorf("List(%.50q): %q, %t", path, names, is)
	}
}

// 15.1: the root, each folder, one of nothing; in order, just below it and no deeper.
func TestList(t *testing.T) {
	l := grown(t)
	listed(t, l, "", "D~2", "d", "d!", "dd", "d~1")
	listed(t, l, "d", "A", "e", "e.f", "none", "z")
	listed(t, l, "d/e", "f")
	listed(t, l, "d/none")
	listed(t, l, "D~2")
	listed(t, l, "d!", "x")
}

// 15.1: files, and paths that are not there: nothing and false.
func TestListNone(t *testing.T) {
	l := grown(t)
	for _, path := range append(absent, "d/A", "d/e/f", "d/e.f", "d/z", "d!/x", "dd", "d~1") {
		unlisted(t, l, path)
	}
}

// 15.1: the root is always there; nothing else is in no image.
func TestListNoImage(t *testing.T) {
	for _, l := range [][]api.File{nil, {}} {
		listed(t, l, "")
		for _, path := range append(absent, "d", "d/e") {
			unlisted(t, l, path)
		}
	}
}

// 15.1: of a list that is not in order, too, the names are told in order, and each path is found.
func TestListOrder(t *testing.T) {
	l := grown(t)
	slices.Reverse(l)
	listed(t, l, "", "D~2", "d", "d!", "dd", "d~1")
	listed(t, l, "d", "A", "e", "e.f", "none", "z")
	for _, want := range l {
		if f, is := image.Find(l, want.Path); f != want || !is {
			t.Errorf("Find(%q): %v, %t", want.Path, f, is)
		}
	}
}

// 15.1: of drawn images, what is listed folder by folder is all of it, in order, and each is found.
func TestAskedDrawn(t *testing.T) {
	for seed := range 300 {
		l := image.Of(drawnTree(drawer(uint64(seed) + 1000)))
		var walk func(path string) []string
		walk = func(path string) []string {
			var all []string
			names, is := image.List(l, path)
			f, found := image.Find(l, path)
			if is != (path == "" || f.Dir) || found != (path != "") || !slices.IsSorted(names) {
				t.Fatalf("%q: %q, %t, %v, %t", path, names, is, f, found)
			}
			for _, s := range names {
				if !name.Legal(s) {
					t.Fatalf("%q below %q", s, path)
				}
				kid := strings.TrimPrefix(path+"/"+s, "/")
				all = append(append(all, kid), walk(kid)...)
			}
			return all
		}
		var want []string
		for _, f := range l {
			want = append(want, f.Path)
		}
		if all := walk(""); !slices.Equal(all, want) {
			t.Fatalf("%q, not %q", all, want)
		}
	}
}

// same wants whether two images are the same, both ways, and that neither is changed.
func same(t *testing.T, what string, a, b []api.File, want bool) {
	t.Helper()
	beforeA, beforeB := slices.Clone(a), slices.Clone(b)
	if image.Same(a, b) != want || image.Same(b, a) != want {
		t.Errorf("%s: not %t", what, want)
	}
	if !slices.Equal(a, beforeA) || !slices.Equal(b, beforeB) {
		t.Errorf("%s: an image was changed", what)
	}
}

// 15.1: images that are the same, or differ in one thing alone, at each place.
func TestSame(t *testing.T) {
	l := grown(t)
	same(t, "itself", l, l, true)
	same(t, "a copy", l, slices.Clone(l), true)
	for i := range l {
		for what, c := range map[string]struct {
			change func(f *api.File)
			want   bool
		}{
			"a path":     {func(f *api.File) { f.Path += "x" }, false},
			"a letter":   {func(f *api.File) { f.Path = "X" + f.Path[1:] }, false},
			"a folder":   {func(f *api.File) { f.Dir = !f.Dir }, false},
			"a digest":   {func(f *api.File) { f.Digest += "x" }, false},
			"a number":   {func(f *api.File) { f.ID++ }, true},
			"a size":     {func(f *api.File) { f.Size++ }, true},
			"both these": {func(f *api.File) { f.ID, f.Size = 0, -1 }, true},
		} {
			b := slices.Clone(l)
			c.change(&b[i])
			same(t, what, l, b, c.want)
		}
		same(t, "one less", l, slices.Delete(slices.Clone(l), i, i+1), false)
		same(t, "one more", l, slices.Insert(slices.Clone(l), i, l[i]), false)
		same(t, "the first ones", l, l[:i], false)
	}
	digest := slices.Clone(l)
	digest[len(digest)-1].Digest = ""
	same(t, "no digest", l, digest, false)
}

// 15.1: none and none are the same; none and some are not.
func TestSameNone(t *testing.T) {
	same(t, "none and none", nil, nil, true)
	same(t, "none and nothing", nil, []api.File{}, true)
	same(t, "none and some", nil, grown(t), false)
	same(t, "none and one of nothing", nil, make([]api.File, 1), false)
}

// 15.1: trees whose numbers differ alone have images that are the same; those whose names or bytes differ have not.
func TestSameTrees(t *testing.T) {
	one := image.Of(tree(dir(16, 0, "d"), file(32, 16, "a"), content(32, "x", 5)))
	same(t, "other numbers", one, image.Of(tree(dir(160, 0, "d"), file(48, 160, "a"), content(48, "x", 5))), true)
	same(t, "another size", one, image.Of(tree(dir(16, 0, "d"), file(32, 16, "a"), content(32, "x", 6))), true)
	same(t, "other bytes", one, image.Of(tree(dir(16, 0, "d"), file(32, 16, "a"), content(32, "y", 5))), false)
	same(t, "no bytes", one, image.Of(tree(dir(16, 0, "d"), file(32, 16, "a"))), false)
	same(t, "another name", one, image.Of(tree(dir(16, 0, "d"), file(32, 16, "A"), content(32, "x", 5))), false)
	same(t, "a folder", image.Of(tree(file(16, 0, "d"))), image.Of(tree(dir(16, 0, "d"))), false)
}
