package plan_test

import (
	"arbour/api"
	"arbour/image"
	"arbour/plan"
	"fmt"
	"slices"
	"testing"
)

// steps wants the steps from some files and folders to others, and that they are done one behind the other, and come to these.
func steps(t *testing.T, now, want []api.File, wanted ...api.Step) {
	t.Helper()
	if l := between(t, now, want); !slices.Equal(l, wanted) {
		t.Fatalf("from %q to %q: %v, not %v", texts(now), texts(want), l, wanted)
	}
	arrives(t, now, want)
}

// arrives wants that all steps are done one behind the other, and come to the second image: behind them no others are left.
func arrives(t *testing.T, now, want []api.File) {
	t.Helper()
	stands := now
	for i, s := range between(t, now, want) {
		next, is := done(t, stands, s)
		if !is {
			t.Fatalf("from %q to %q: step %d, %v, may not be done", texts(now), texts(want), i, s)
		}
		stands = next
	}
	if !image.Same(stands, want) || len(between(t, stands, want)) != 0 {
		t.Fatalf("from %q to %q: came to %q", texts(now), texts(want), texts(stands))
	}
}

// 16, the chapter's example: from a file a to a folder a.
func TestExample(t *testing.T) {
	steps(t, files("a"), files("a/"), remove("a"), mkdir("a"))
	if api.StepRemove != 1 || api.StepRmdir != 2 || api.StepMkdir != 3 || api.StepPut != 4 {
		t.Error("the steps have other numbers")
	}
}

// some is an image with folders in folders, one of nothing, and names that begin as others do.
func some() []api.File {
	return files("B", "d/", "d/A=1", "d/e/", "d/e/f=2", "d/e.f", "d/none/", "d!/", "d!/x", "dd=3")
}

// 16.1: none and none: no steps, whether they are nil or empty.
func TestBetweenNone(t *testing.T) {
	for _, now := range [][]api.File{nil, {}} {
		for _, want := range [][]api.File{nil, {}} {
			if l := plan.Between(now, want); len(l) != 0 {
				t.Error(l)
			}
		}
	}
}

// 16.1: from none to some: folders, the first path first, then files.
func TestBetweenComes(t *testing.T) {
	steps(t, nil, files("a"), put("a", ""))
	steps(t, nil, files("a=1"), put("a", "1"))
	steps(t, nil, files("a/"), mkdir("a"))
	steps(t, nil, some(),
		mkdir("d"), mkdir("d/e"), mkdir("d/none"), mkdir("d!"),
		put("B", ""), put("d/A", "1"), put("d/e/f", "2"), put("d/e.f", ""), put("d!/x", ""), put("dd", "3"))
}

// 16.1: from some to none: the last path first, files and folders as they come.
func TestBetweenGoes(t *testing.T) {
	steps(t, files("a"), nil, remove("a"))
	steps(t, files("a=1"), nil, remove("a"))
	steps(t, files("a/"), nil, rmdir("a"))
	steps(t, some(), nil,
		remove("dd"), remove("d!/x"), rmdir("d!"), rmdir("d/none"), remove("d/e.f"), remove("d/e/f"), rmdir("d/e"), remove("d/A"), rmdir("d"), remove("B"))
}

// 16.1: the same image, and one whose numbers and sizes differ alone.
func TestBetweenSame(t *testing.T) {
	steps(t, some(), some())
	for i := range some() {
		for _, change := range []func(f *api.File){
			func(f *api.File) { f.ID++ },
			func(f *api.File) { f.Size++ },
			func(f *api.File) { f.ID, f.Size = 0, -1 },
		} {
			l := some()
			change(&l[i])
			steps(t, some(), l)
			steps(t, l, some())
		}
	}
}

// 16, Words: a file that is another one has another digest, also from none on, and to none.
func TestBetweenDigest(t *testing.T) {
	steps(t, files("a=1", "b=1"), files("a=1", "b=2"), put("b", "2"))
	steps(t, files("a=1"), files("a"), put("a", ""))
	steps(t, files("a"), files("a=1"), put("a", "1"))
	steps(t, files("a=1"), files("a=1\x00"), put("a", "1\x00"))
	steps(t, files("d/", "d/x=1", "d/y=1", "e=1"), files("d/", "d/x=3", "d/y=1", "e=2"), put("d/x", "3"), put("e", "2"))
	// Bytes that stand at another path are no matter.
	steps(t, files("a=1", "b=2"), files("a=2", "b=1"), put("a", "2"), put("b", "1"))
	steps(t, files("a=1"), files("b=1"), remove("a"), put("b", "1"))
}

// 16, Words: names with other letters are others.
func TestBetweenLetters(t *testing.T) {
	steps(t, files("a"), files("A"), remove("a"), put("A", ""))
	steps(t, files("d/", "d/x"), files("D/", "D/x"), remove("d/x"), rmdir("d"), mkdir("D"), put("D/x", ""))
}

// 16, Words: what is wanted as the other kind goes, and comes as that.
func TestBetweenKinds(t *testing.T) {
	steps(t, files("a=1"), files("a/"), remove("a"), mkdir("a"))
	steps(t, files("a/"), files("a=1"), rmdir("a"), put("a", "1"))
	// Neither has a digest: a file comes all the same.
	steps(t, files("a/"), files("a"), rmdir("a"), put("a", ""))
	steps(t, files("a"), files("a/", "a/a"), remove("a"), mkdir("a"), put("a/a", ""))
	steps(t, files("a/", "a/b/", "a/b/c=1", "a/d=2"), files("a=3"), remove("a/d"), remove("a/b/c"), rmdir("a/b"), rmdir("a"), put("a", "3"))
	steps(t, files("d/", "d/a=1", "d/b/", "d/b/c"), files("d/", "d/a/", "d/a/c", "d/b=1"),
		remove("d/b/c"), rmdir("d/b"), remove("d/a"), mkdir("d/a"), put("d/a/c", ""), put("d/b", "1"))
}

// 16, Words: folders within folders: those that go the last path first, those that come the first path first; names with bytes below / stand behind what is below a folder.
func TestBetweenDeep(t *testing.T) {
	here := files("a/", "a/b/", "a/b/c/", "a/b/c/d/", "a/b!/", "a!/", "a!/b/")
	steps(t, here, nil, rmdir("a!/b"), rmdir("a!"), rmdir("a/b!"), rmdir("a/b/c/d"), rmdir("a/b/c"), rmdir("a/b"), rmdir("a"))
	steps(t, nil, here, mkdir("a"), mkdir("a/b"), mkdir("a/b/c"), mkdir("a/b/c/d"), mkdir("a/b!"), mkdir("a!"), mkdir("a!/b"))
	there := files("a/", "a/c/", "a/c/b/", "b/")
	steps(t, here, there,
		rmdir("a!/b"), rmdir("a!"), rmdir("a/b!"), rmdir("a/b/c/d"), rmdir("a/b/c"), rmdir("a/b"),
		mkdir("a/c"), mkdir("a/c/b"), mkdir("b"))
}

// 16, Words: the order of the four kinds: what goes by its paths alone, then folders, then files, whatever stands ahead of the other.
func TestBetweenOrder(t *testing.T) {
	steps(t,
		files("c", "d/", "d/x", "e", "f/", "k=1", "z/"),
		files("a=1", "b/", "b/x=2", "c/", "d", "e", "g/", "k=2", "y=3"),
		rmdir("z"), rmdir("f"), remove("d/x"), rmdir("d"), remove("c"),
		mkdir("b"), mkdir("c"), mkdir("g"),
		put("a", "1"), put("b/x", "2"), put("d", ""), put("k", "2"), put("y", "3"))
}

// 16, Words: each step has its kind and path, and a put alone a digest.
func TestBetweenDigests(t *testing.T) {
	now, want := files("a=1", "b=2", "d/", "d/x=4"), files("a/", "a/x=5", "b=3", "c=6")
	for _, s := range between(t, now, want) {
		if (s.Digest != "") != (s.Kind == 4) {
			t.Error(s)
		}
	}
}

// 16, Words: lists that are not in order have the steps of those that are.
func TestBetweenNoOrder(t *testing.T) {
	now, want := files("a", "b/", "b/c/", "b/c/d=1", "b!", "e/"), files("a/", "a/x", "b/", "b/c=2", "e/", "e/f/", "e/f/g=3")
	wanted := stepsOf(now, want)
	draw := drawer(16)
	for range 200 {
		i, j := draw(len(now)), draw(len(want))
		now[0], now[i] = now[i], now[0]
		want[0], want[j] = want[j], want[0]
		if l := between(t, now, want); !slices.Equal(l, wanted) {
			t.Fatalf("from %q to %q: %v, not %v", texts(now), texts(want), l, wanted)
		}
	}
}

// R1, R4: lists that are no images, with paths that may not be or stand there twice: the call ends, and tells the same again.
func TestBetweenNoImages(t *testing.T) {
	draw := drawer(61)
	for range 2000 {
		now, want := drawnFiles(draw), drawnFiles(draw)
		before := [2][]api.File{slices.Clone(now), slices.Clone(want)}
		first := plan.Between(now, want)
		if !slices.Equal(plan.Between(now, want), first) {
			t.Fatal("other steps")
		}
		if !slices.Equal(now, before[0]) || !slices.Equal(want, before[1]) {
			t.Fatal("a list was changed")
		}
	}
}

// A file and a folder of one path, as they may stand on a disk: the one that is wanted stays.
func TestBetweenBothKinds(t *testing.T) {
	both := files("a=1", "a/")
	for _, now := range [][]api.File{both, {both[1], both[0]}} {
		for want, step := range map[string]api.Step{"a=1": rmdir("a"), "a/": remove("a")} {
			l := plan.Between(now, files(want))
			if !slices.Equal(l, []api.Step{step}) {
				t.Fatalf("from %q to %q: %v", texts(now), want, l)
			}
			if stands, is := plan.Do(now, l[0]); !is || !image.Same(stands, files(want)) {
				t.Errorf("from %q to %q: came to %q, %t", texts(now), want, texts(stands), is)
			}
		}
	}
}

// 16.1: many files in many folders, which are all others: steps are found without going over all for each.
func TestBetweenMany(t *testing.T) {
	var now, want []api.File
	const folders, each = 200, 200
	for i := range folders {
		now = append(now, api.File{Path: fmt.Sprintf("d%03d", i), Dir: true})
		want = append(want, api.File{Path: fmt.Sprintf("e%03d", i), Dir: true})
		for j := range each {
			now = append(now, api.File{Path: fmt.Sprintf("d%03d/f%03d", i, j), Digest: "1"})
			want = append(want, api.File{Path: fmt.Sprintf("e%03d/f%03d", i, j), Digest: "2"})
		}
	}
	l := plan.Between(now, want)
	if len(l) != len(now)+len(want) {
		t.Fatal(len(l), "steps")
	}
	for i, s := range l[:len(now)] {
		f := now[len(now)-1-i]
		if s != gone(f) {
			t.Fatalf("step %d: %v", i, s)
		}
	}
	for i, s := range l[len(now) : len(now)+folders] {
		if s != mkdir(fmt.Sprintf("e%03d", i)) {
			t.Fatalf("folder %d: %v", i, s)
		}
	}
	for i, s := range l[len(now)+folders:] {
		if s != put(fmt.Sprintf("e%03d/f%03d", i/each, i%each), "2") {
			t.Fatalf("file %d: %v", i, s)
		}
	}
	if l := plan.Between(now, now); len(l) != 0 {
		t.Error(len(l), "steps to the same")
	}
}

// gone is the step by which one goes.
func gone(f api.File) api.Step {
	if f.Dir {
		return rmdir(f.Path)
	}
	return remove(f.Path)
}
