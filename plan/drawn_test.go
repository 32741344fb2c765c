package plan_test

import (
	"arbour/api"
	"arbour/image"
	"arbour/move"
	"arbour/plan"
	"slices"
	"strings"
	"testing"
)

// drawnNames are names that may be, some of which begin as others do, and two that may not.
var drawnNames = []string{"a", "b", "A", "a!", "a.b", "a~1", "x", "~", strings.Repeat("n", 32), "a.", ""}

// drawnPath is a path of some of the names.
func drawnPath(draw func(int) int) string {
	var parts []string
	for range 1 + draw(3) {
		parts = append(parts, drawnNames[draw(len(drawnNames))])
	}
	return strings.Join(parts, "/")
}

// drawnDigest is one of a few digests, or none.
func drawnDigest(draw func(int) int) string { return []string{"", "1", "2"}[draw(3)] }

// drawnFiles is files and folders in no order, which may stand there twice, or nowhere.
func drawnFiles(draw func(int) int) []api.File {
	var l []api.File
	for range draw(20) {
		l = append(l, api.File{Path: drawnPath(draw), Dir: draw(2) == 0, ID: uint64(draw(5)), Digest: drawnDigest(draw), Size: draw(5)})
	}
	return l
}

// drawnImage is an image: each of its files and folders stands in a folder that is there.
func drawnImage(draw func(int) int) []api.File {
	folders := []string{""}
	var l []api.File
	for range draw(25) {
		path := folders[draw(len(folders))] + drawnNames[draw(len(drawnNames)-2)]
		if at(l, path) != nil {
			continue
		}
		f := api.File{Path: path, Dir: draw(2) == 0, ID: uint64(draw(1000))}
		if f.Dir {
			folders = append(folders, path+"/")
		} else {
			f.Digest, f.Size = drawnDigest(draw), draw(9000)
		}
		l = append(l, f)
	}
	slices.SortFunc(l, func(a, b api.File) int { return pathsOf(a.Path, b.Path) })
	return l
}

// 16.2: between drawn images all steps are done one behind the other, and come to the second one; each step and what stands there behind it is that of the chapter's words.
func TestDrawnImages(t *testing.T) {
	draw := drawer(1)
	kinds := make(map[int]int)
	for range 3000 {
		now, want := drawnImage(draw), drawnImage(draw)
		for _, s := range plan.Between(now, want) {
			kinds[s.Kind]++
		}
		arrives(t, now, want)
		arrives(t, want, now)
		arrives(t, now, now)
		arrives(t, nil, now)
		arrives(t, now, nil)
	}
	for kind := 1; kind <= 4; kind++ {
		if kinds[kind] < 1000 {
			t.Errorf("of kind %d only %d steps", kind, kinds[kind])
		}
	}
}

// 16.2: what was done in part may go on from there, to what is wanted or to something else.
func TestDrawnInPart(t *testing.T) {
	draw := drawer(2)
	for range 1000 {
		now, want, other := drawnImage(draw), drawnImage(draw), drawnImage(draw)
		l := plan.Between(now, want)
		for _, s := range l[:draw(len(l)+1)] {
			now, _ = plan.Do(now, s)
		}
		arrives(t, now, want)
		arrives(t, now, other)
	}
}

// 16.1: a small change, and back: no more steps than it takes.
func TestDrawnChanges(t *testing.T) {
	draw := drawer(3)
	for range 3000 {
		now := drawnImage(draw)
		s := api.Step{Kind: 1 + draw(4), Path: drawnPath(draw), Digest: drawnDigest(draw)}
		if len(now) > 0 && draw(2) == 0 {
			s.Path = now[draw(len(now))].Path
		}
		want, is := done(t, now, s)
		if is != !slices.Equal(now, want) && s.Kind != 4 {
			t.Fatalf("%v on %q: %t", s, texts(now), is)
		}
		if l := between(t, now, want); len(l) > 1 || len(l) == 1 && (l[0].Kind != s.Kind || l[0].Path != s.Path) {
			t.Fatalf("%v on %q: %v", s, texts(now), l)
		}
		arrives(t, want, now)
	}
}

// 16.1: long walks of drawn steps, which may be done or not: what stands there is always that of the chapter's words, and an image.
func TestDrawnWalks(t *testing.T) {
	draw := drawer(4)
	may := make(map[int]int)
	for range 100 {
		var l []api.File
		for range 100 {
			s := api.Step{Kind: 1 + draw(4), Path: drawnPath(draw), Digest: drawnDigest(draw)}
			if len(l) > 0 && draw(2) == 0 {
				s.Path = l[draw(len(l))].Path
			}
			if draw(30) == 0 {
				s.Kind = []int{0, 5, -1}[draw(3)]
			}
			next, is := done(t, l, s)
			if is {
				may[s.Kind]++
			}
			if l = next; !slices.IsSortedFunc(l, image.Compare) {
				t.Fatal(texts(l))
			}
		}
	}
	for kind := 1; kind <= 4; kind++ {
		if may[kind] < 100 {
			t.Errorf("of kind %d only %d steps were done", kind, may[kind])
		}
	}
	if len(may) != 4 {
		t.Error(may)
	}
}

// 16.2: between the images of drawn trees, behind one another as operations come.
func TestDrawnTrees(t *testing.T) {
	for seed := range 100 {
		draw := drawer(uint64(seed) + 100)
		x, stands := move.New(), []api.File(nil)
		for count := range 40 {
			id := uint64(16 * (1 + draw(12)))
			o := api.Op{Kind: 1 + draw(4), Thing: id, Parent: uint64(16 * draw(13)), Name: drawnNames[draw(len(drawnNames))], Dir: draw(3) > 0, Digest: strings.Repeat("xyz"[draw(3):][:1], 32), Size: draw(9000)}
			o.At = api.Stamp{Count: uint64(1 + count)}
			x.Add(api.Entry{Op: o, Hash: "h"})
			want := image.Of(x)
			arrives(t, stands, want)
			stands = want
		}
		arrives(t, stands, nil)
	}
}
