package plan_test

import (
	"arbour/api"
	"arbour/image"
	"arbour/plan"
	"slices"
	"strings"
	"testing"
)

// does wants that a step is done on some files and folders, and what stands there then.
func does(t *testing.T, l []api.File, s api.Step, want ...string) {
	t.Helper()
	got, is := done(t, l, s)
	if !is || !slices.Equal(texts(got), want) {
		t.Errorf("%v on %q: %q, %t; not %q", s, texts(l), texts(got), is, want)
	}
	if !slices.IsSortedFunc(got, image.Compare) {
		t.Errorf("%v on %q: %q is not in order", s, texts(l), texts(got))
	}
	keeps(t, l, got, s.Path)
}

// keeps wants that all stays of those that a step does not speak of, and that of what comes the number and the size are 0.
func keeps(t *testing.T, was, is []api.File, path string) {
	t.Helper()
	for _, f := range is {
		switch {
		case f.Path == path && (f.ID != 0 || f.Size != 0):
			t.Errorf("%v came", f)
		case f.Path != path && !slices.Contains(was, f):
			t.Errorf("%v was not there", f)
		}
	}
}

// refuses wants that a step may not be done on some files and folders, and leaves what was.
func refuses(t *testing.T, l []api.File, s api.Step) {
	t.Helper()
	got, is := done(t, l, s)
	if is || !slices.Equal(got, l) {
		t.Errorf("%.300v on %q: %q, %t", s, texts(l), texts(got), is)
	}
}

// grown is an image with a file, folders in folders, one of nothing, and names that begin as others do.
func grown() []api.File {
	return files("a=1", "d/", "d/e/", "d/e/f=2", "d/x", "d/y=3", "d!/", "none/", "nones")
}

// 16.1, StepRemove: files, wherever they stand.
func TestRemove(t *testing.T) {
	does(t, files("a"), remove("a"))
	does(t, grown(), remove("a"), "d/", "d/e/", "d/e/f=2", "d/x", "d/y=3", "d!/", "none/", "nones")
	does(t, grown(), remove("d/x"), "a=1", "d/", "d/e/", "d/e/f=2", "d/y=3", "d!/", "none/", "nones")
	does(t, grown(), remove("d/e/f"), "a=1", "d/", "d/e/", "d/x", "d/y=3", "d!/", "none/", "nones")
	does(t, grown(), remove("nones"), "a=1", "d/", "d/e/", "d/e/f=2", "d/x", "d/y=3", "d!/", "none/")
	// A digest of what goes says nothing.
	does(t, files("a=1", "b=2"), api.Step{Kind: 1, Path: "b", Digest: "3"}, "a=1")
}

// 16.1, StepRemove: what is not there, and folders, with and without things below.
func TestRemoveNot(t *testing.T) {
	for _, path := range []string{"b", "A", "a/b", "d/z", "d/e/f/g", "e", "x", "f", "none/x", "no", "d", "d/e", "d!", "none"} {
		refuses(t, grown(), remove(path))
	}
	refuses(t, nil, remove("a"))
	refuses(t, files("a/"), remove("a"))
}

// 16.1, StepRmdir: folders with nothing in them; others whose names begin so are no matter.
func TestRmdir(t *testing.T) {
	does(t, files("a/"), rmdir("a"))
	does(t, grown(), rmdir("none"), "a=1", "d/", "d/e/", "d/e/f=2", "d/x", "d/y=3", "d!/", "nones")
	does(t, grown(), rmdir("d!"), "a=1", "d/", "d/e/", "d/e/f=2", "d/x", "d/y=3", "none/", "nones")
	does(t, files("d/", "d/e/", "d/e!/", "d/ef/", "d/ef/e", "e/", "e/e"), rmdir("d/e"), "d/", "d/e!/", "d/ef/", "d/ef/e", "e/", "e/e")
	does(t, files("d/", "d~1/", "d~1/d"), rmdir("d"), "d~1/", "d~1/d")
	does(t, files("d/", "d/d/"), api.Step{Kind: 2, Path: "d/d", Digest: "1"}, "d/")
}

// 16.1, StepRmdir: folders with something below, files, what is not there; the root.
func TestRmdirNot(t *testing.T) {
	for _, path := range []string{"d", "d/e", "a", "d/x", "d/e/f", "nones", "D", "b", "none/x", "a/b", "d/none", ""} {
		refuses(t, grown(), rmdir(path))
	}
	refuses(t, nil, rmdir("a"))
	refuses(t, nil, rmdir(""))
	refuses(t, files("d/", "d/e/"), rmdir("d"))
	refuses(t, files("d/", "d/a"), rmdir("d"))
	refuses(t, files("a"), rmdir("a"))
}

// 16.1, StepMkdir: where nothing is, in the place of its path.
func TestMkdir(t *testing.T) {
	does(t, nil, mkdir("a"), "a/")
	does(t, grown(), mkdir("b"), "a=1", "b/", "d/", "d/e/", "d/e/f=2", "d/x", "d/y=3", "d!/", "none/", "nones")
	does(t, grown(), mkdir("d/e/a"), "a=1", "d/", "d/e/", "d/e/a/", "d/e/f=2", "d/x", "d/y=3", "d!/", "none/", "nones")
	does(t, grown(), mkdir("d/z"), "a=1", "d/", "d/e/", "d/e/f=2", "d/x", "d/y=3", "d/z/", "d!/", "none/", "nones")
	does(t, grown(), mkdir("d!/!"), "a=1", "d/", "d/e/", "d/e/f=2", "d/x", "d/y=3", "d!/", "d!/!/", "none/", "nones")
	does(t, grown(), mkdir("D"), "D/", "a=1", "d/", "d/e/", "d/e/f=2", "d/x", "d/y=3", "d!/", "none/", "nones")
	does(t, grown(), mkdir("~"), "a=1", "d/", "d/e/", "d/e/f=2", "d/x", "d/y=3", "d!/", "none/", "nones", "~/")
}

// 16.1, StepMkdir and StepPut: what comes has the step's path and digest, a folder as well as a file, and no number and no size.
func TestWhatComes(t *testing.T) {
	for _, kind := range []int{3, 4} {
		for _, digest := range []string{"", "d", "1", "\x00", strings.Repeat("\xff\x00", 16), strings.Repeat("d", 1000)} {
			for _, path := range []string{"a", "d/a", "d/e/a", "~"} {
				l := files("d/", "d/e/", "d/e/f=2", "d/x")
				if path == "a" {
					l = nil
				}
				got, is := done(t, l, api.Step{Kind: kind, Path: path, Digest: digest})
				want := api.File{Path: path, Dir: kind == 3, Digest: digest}
				if f, _ := image.Find(got, path); !is || f != want || len(got) != len(l)+1 {
					t.Errorf("kind %d, %q, %q: %v, %t", kind, path, digest, got, is)
				}
			}
		}
	}
}

// 16.1: of a folder with a digest what may be done is the same, and it keeps that one.
func TestFolderWithDigest(t *testing.T) {
	l := files("a/=1", "b=2")
	does(t, l, put("a/x", "3"), "a/=1", "a/x=3", "b=2")
	does(t, l, api.Step{Kind: 3, Path: "a/d", Digest: "4"}, "a/=1", "a/d/=4", "b=2")
	does(t, l, rmdir("a"), "b=2")
	does(t, l, remove("b"), "a/=1")
	refuses(t, l, api.Step{Kind: 3, Path: "a", Digest: "5"})
	refuses(t, l, api.Step{Kind: 3, Path: "b", Digest: "5"})
	refuses(t, l, put("a", "1"))
}

// 16.1, StepMkdir: where a file is, where a folder is.
func TestMkdirNot(t *testing.T) {
	for _, path := range []string{"a", "d", "d/e", "d/e/f", "d/x", "d!", "none", "nones"} {
		refuses(t, grown(), mkdir(path))
	}
}

// 16.1, StepPut: where nothing is, in the place of its path.
func TestPut(t *testing.T) {
	does(t, nil, put("a", ""), "a")
	does(t, nil, put("a", "1"), "a=1")
	does(t, grown(), put("b", "7"), "a=1", "b=7", "d/", "d/e/", "d/e/f=2", "d/x", "d/y=3", "d!/", "none/", "nones")
	does(t, grown(), put("d/e/a", "7"), "a=1", "d/", "d/e/", "d/e/a=7", "d/e/f=2", "d/x", "d/y=3", "d!/", "none/", "nones")
	does(t, grown(), put("d/e.f", "7"), "a=1", "d/", "d/e/", "d/e/f=2", "d/e.f=7", "d/x", "d/y=3", "d!/", "none/", "nones")
	does(t, grown(), put("d!/a", "7"), "a=1", "d/", "d/e/", "d/e/f=2", "d/x", "d/y=3", "d!/", "d!/a=7", "none/", "nones")
	does(t, grown(), put("z", ""), "a=1", "d/", "d/e/", "d/e/f=2", "d/x", "d/y=3", "d!/", "none/", "nones", "z")
	digest := strings.Repeat("\xff\x00", 16)
	does(t, nil, put("a", digest), "a="+digest)
}

// 16.1, StepPut: where a file is: its digest is another one then, the same one, or none, and it is one that came.
func TestPutAgain(t *testing.T) {
	for _, digest := range []string{"", "1", "9"} {
		for i, f := range grown() {
			if f.Dir {
				continue
			}
			want := grown()
			want[i] = api.File{Path: f.Path, Digest: digest}
			if l, is := done(t, grown(), put(f.Path, digest)); !is || !slices.Equal(l, want) {
				t.Errorf("put %q, %q: %v, %t", f.Path, digest, l, is)
			}
		}
	}
}

// 16.1, StepPut: where a folder is, with something below and without.
func TestPutNot(t *testing.T) {
	for _, path := range []string{"d", "d/e", "d!", "none"} {
		refuses(t, grown(), put(path, "1"))
		refuses(t, grown(), put(path, ""))
	}
}

// 16.1: a path that may not be, whatever the kind: empty, with an empty name, too long, with a name that may not be.
func TestIllegalPaths(t *testing.T) {
	long := strings.Repeat("n", 32)
	wrong := []string{
		"", "/", "//", "/a", "a/", "d/", "d//e", "//d", "d/e/", "/d/e", // empty names
		".", "..", "d/.", "d/..", "d/../d", "./a", "d/a.", "a.", // points
		" ", "d/ ", "a b", "a\\b", "d/*", "c:", "d/?", "\"", "<", ">", "|", "\x00", "d/\x7f", "\xff", "\u00e9", // bytes
		long + "n", "d/" + long + "n", strings.Repeat(".", 33) + "/a", // names that are too long
	}
	for _, path := range wrong {
		for kind := -1; kind <= 6; kind++ {
			refuses(t, grown(), api.Step{Kind: kind, Path: path, Digest: "1"})
			refuses(t, nil, api.Step{Kind: kind, Path: path})
		}
	}
	for _, path := range []string{long, "d/" + long, "d/.a", "d/a~1", "!", "d/..a"} {
		refuses(t, grown(), remove(path))
		for _, s := range []api.Step{mkdir(path), put(path, "1")} {
			if _, is := done(t, grown(), s); !is {
				t.Errorf("%v may not be done", s)
			}
		}
	}
}

// deep is folders within one another, whose last path has so many bytes.
func deep(n int) []api.File {
	path, all := strings.Repeat("a", n-2*((n-1)/2)), []string{}
	for {
		all = append(all, path+"/")
		if len(path) == n {
			return files(all...)
		}
		path += "/b"
	}
}

// 16.1: a path has at most MaxPath - 2 bytes.
func TestLongPaths(t *testing.T) {
	for n := 230; n <= 238; n++ {
		l := deep(n)
		folder := l[len(l)-1].Path
		for _, more := range []string{"c", "cc", "ccc", "cccc", "ccccc", "cccccc", "ccccccc", "cccccccc"} {
			path := folder + "/" + more
			for _, s := range []api.Step{mkdir(path), put(path, "1")} {
				if got, is := done(t, l, s); is != (len(path) <= 238) || len(got) != len(l)+counted(is) {
					t.Errorf("a path of %d bytes: %t", len(path), is)
				}
			}
		}
		if _, is := done(t, l, rmdir(folder)); !is {
			t.Errorf("a folder of %d bytes stays", n)
		}
	}
	refuses(t, nil, put(strings.Repeat("a/", 1<<20)+"a", "1"))
	refuses(t, nil, mkdir(strings.Repeat("a", 1<<20)))
}

// counted is how many more there are, if a step was done that lays one.
func counted(is bool) int {
	if is {
		return 1
	}
	return 0
}

// 16.1: a path whose folder is not there, or is a file.
func TestNoFolder(t *testing.T) {
	for _, path := range []string{
		"b/x", "D/x", "d/z/x", "d/e/z/x", "no/x", "d/none/x", "d/d/x", "e/x", "e/f", "x/y", // not there
		"a/x", "nones/x", "d/x/x", "d/e/f/x", "a/b/c", "d/x/y/z", // files, and below what is not there in them
	} {
		for kind := -1; kind <= 6; kind++ {
			refuses(t, grown(), api.Step{Kind: kind, Path: path, Digest: "1"})
		}
	}
	refuses(t, nil, mkdir("a/b"))
	refuses(t, nil, put("a/b", "1"))
}

// 16.1: any other Kind.
func TestOtherKinds(t *testing.T) {
	for _, kind := range []int{0, 5, 6, -1, -2, -3, -4, 8, 16, 255, 256, 257, 260, 1 << 32, 1<<32 + 3, 1<<63 - 1, -1 << 63} {
		for _, path := range []string{"a", "b", "d", "d/x", "d/z", "none", ""} {
			refuses(t, grown(), api.Step{Kind: kind, Path: path, Digest: "1"})
			refuses(t, nil, api.Step{Kind: kind, Path: path, Digest: "1"})
		}
	}
	refuses(t, grown(), api.Step{})
}

// 16.1: lists of nothing, nil and empty.
func TestDoNone(t *testing.T) {
	for _, l := range [][]api.File{nil, {}} {
		for kind := -1; kind <= 6; kind++ {
			got, is := plan.Do(l, api.Step{Kind: kind, Path: "a", Digest: "1"})
			if is != (kind == 3 || kind == 4) || len(got) != counted(is) {
				t.Errorf("kind %d: %v, %t", kind, got, is)
			}
		}
	}
}

// R2: what is told is the caller's own, with room behind it or not; the same list may be asked again for other steps.
func TestDoOwn(t *testing.T) {
	l := grown()
	one, _ := plan.Do(l, put("zz", "1"))
	two, _ := plan.Do(one, put("zzz", "2"))
	three, _ := plan.Do(one, put("zzz", "3"))
	four, is := plan.Do(one, mkdir("a"))
	if is || !image.Same(four, one) {
		t.Fatal(four, is)
	}
	four[0].Path, three[1].Path = "spoilt", "spoilt"
	if one[0].Path != "a" || one[1].Path != "d" || two[1].Path != "d" || two[len(two)-1].Digest != "2" || !slices.Equal(l, grown()) {
		t.Error(texts(l), texts(one), texts(two))
	}
}

// 16.1: of a list that is not in order, what may not be done leaves it so; what may be done tells it in order.
func TestDoNoOrder(t *testing.T) {
	l := grown()
	slices.Reverse(l)
	before := slices.Clone(l)
	for _, s := range []api.Step{remove("b"), rmdir("d"), mkdir("a"), put("d", "1"), put("a/b", "1"), {Path: "b"}} {
		refuses(t, l, s)
	}
	does(t, l, remove("a"), "d/", "d/e/", "d/e/f=2", "d/x", "d/y=3", "d!/", "none/", "nones")
	does(t, l, rmdir("none"), "a=1", "d/", "d/e/", "d/e/f=2", "d/x", "d/y=3", "d!/", "nones")
	does(t, l, mkdir("b"), "a=1", "b/", "d/", "d/e/", "d/e/f=2", "d/x", "d/y=3", "d!/", "none/", "nones")
	does(t, l, put("d/x", "9"), "a=1", "d/", "d/e/", "d/e/f=2", "d/x=9", "d/y=3", "d!/", "none/", "nones")
	if !slices.Equal(l, before) {
		t.Error("the list was changed")
	}
}

// 16.1: in a list that is no image, too, a path that may not be, or whose folder is not there, may not go; a folder with something far below is not empty.
func TestDoNoImage(t *testing.T) {
	refuses(t, files("a."), remove("a."))
	refuses(t, files("/"), rmdir(""))
	refuses(t, files("a b/"), rmdir("a b"))
	refuses(t, files("d/x"), remove("d/x"))
	refuses(t, files("d", "d/x"), remove("d/x"))
	refuses(t, files("d/x/"), rmdir("d/x"))
	refuses(t, files("d/", "d/e/f"), rmdir("d"))
	refuses(t, files("d", "d/e"), mkdir("d/f"))
	does(t, files("d", "d/e"), remove("d"), "d/e")
}

// R1, R4: lists that are no images and drawn steps: the call ends, tells the same again, and leaves what was handed in.
func TestDoNoImages(t *testing.T) {
	draw := drawer(62)
	for range 5000 {
		l := drawnFiles(draw)
		before := slices.Clone(l)
		s := api.Step{Kind: draw(7) - 1, Path: drawnPath(draw), Digest: drawnDigest(draw)}
		got, is := plan.Do(l, s)
		again, isAgain := plan.Do(l, s)
		if !slices.Equal(got, again) || is != isAgain || !slices.Equal(l, before) {
			t.Fatalf("%v on %q", s, texts(l))
		}
		if !is && !slices.Equal(got, l) {
			t.Fatalf("%v on %q: %q", s, texts(l), texts(got))
		}
	}
}
