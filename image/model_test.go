package image_test

import (
	"arbour/api"
	"arbour/image"
	"arbour/move"
	"arbour/name"
	"slices"
	"strings"
	"testing"
)

// pathMost is how many bytes a path has at most.
const pathMost = 238

// drawer draws numbers below n, the same ones at each run.
func drawer(seed uint64) func(n int) int {
	return func(n int) int {
		seed = seed*6364136223846793005 + 1442695040888963407
		return int(seed >> 33 % uint64(n))
	}
}

// dir is that a folder comes.
func dir(id, parent uint64, name string) api.Op {
	return api.Op{Kind: api.OpCreate, Thing: id, Parent: parent, Name: name, Dir: true}
}

// file is that a file comes.
func file(id, parent uint64, name string) api.Op {
	return api.Op{Kind: api.OpCreate, Thing: id, Parent: parent, Name: name}
}

// moved is that a thing stands elsewhere.
func moved(id, parent uint64, name string) api.Op {
	return api.Op{Kind: api.OpMove, Thing: id, Parent: parent, Name: name}
}

// deleted is that a thing goes to the trash.
func deleted(id uint64) api.Op { return api.Op{Kind: api.OpDelete, Thing: id} }

// content is that a file has other bytes.
func content(id uint64, letter string, size int) api.Op {
	return api.Op{Kind: api.OpContent, Thing: id, Digest: strings.Repeat(letter, 32), Size: size}
}

// entry is an operation at a count.
func entry(count int, o api.Op) api.Entry {
	o.At = api.Stamp{Count: uint64(count)}
	return api.Entry{Op: o, Hash: "h"}
}

// tree is that of operations at the counts 1, 2, 3 ..
func tree(all ...api.Op) *move.Tree {
	t := move.New()
	for i, o := range all {
		t.Add(entry(i+1, o))
	}
	return t
}

// compareOf orders paths by the chapter's words: the lists of their names.
func compareOf(a, b string) int {
	return slices.Compare(strings.Split(a, "/"), strings.Split(b, "/"))
}

// imageOf is a tree's image by the chapter's words, without any haste: each thing is held for itself, from its own place up to the root.
func imageOf(t *move.Tree) []api.File {
	var l []api.File
	for x := range t.All() {
		if path := pathOf(t, x.ID); t.Below(x.ID, api.Root) && len(path) <= pathMost {
			l = append(l, api.File{Path: path, Dir: x.Dir, ID: x.ID, Digest: x.Digest, Size: x.Size})
		}
	}
	slices.SortFunc(l, func(a, b api.File) int { return compareOf(a.Path, b.Path) })
	return l
}

// pathOf is the path of a thing, however long: the names that are assigned to it and to those above.
func pathOf(t *move.Tree, id uint64) string {
	x, _ := t.Get(id)
	kids := t.Kids(x.Parent)
	var given []api.Given
	for _, kid := range kids {
		k, _ := t.Get(kid)
		given = append(given, api.Given{ID: kid, Name: k.Name})
	}
	own := name.Assign(given)[slices.Index(kids, id)]
	if x.Parent < 2 {
		return own
	}
	return pathOf(t, x.Parent) + "/" + own
}

// state is all that a tree tells.
type state struct {
	things      []api.Thing
	log         []api.Entry
	len, undone int
}

func stateOf(t *move.Tree) state {
	return state{slices.Collect(t.All()), t.Log(), t.Len(), t.Undone()}
}

func (s state) same(other state) bool {
	return slices.Equal(s.things, other.things) && slices.Equal(s.log, other.log) && s.len == other.len && s.undone == other.undone
}

// of is a tree's image, that of the model; the tree is not changed. It is asked for twice: what was told is the caller's, and is changed by him.
func of(t *testing.T, x *move.Tree) []api.File {
	t.Helper()
	before, want := stateOf(x), imageOf(x)
	for range 2 {
		l := image.Of(x)
		if !slices.Equal(l, want) {
			t.Fatalf("Of: %v, not %v", l, want)
		}
		if !stateOf(x).same(before) {
			t.Fatal("Of changed the tree")
		}
		clear(l)
		_ = append(l, api.File{Path: "spoilt"})
	}
	told(t, image.Of(x))
	return image.Of(x)
}

// told wants of an image that it rises, that each path may be and is there once, small, and that each folder ahead of a name is there.
func told(t *testing.T, l []api.File) {
	t.Helper()
	dirs, small := map[string]bool{"": true}, make(map[string]bool)
	for i, f := range l {
		if i > 0 && image.Compare(l[i-1], f) >= 0 {
			t.Fatalf("%q stands behind %q", f.Path, l[i-1].Path)
		}
		if above, _ := name.Split(f.Path); !name.Path(f.Path) || !dirs[above] || small[name.Fold(f.Path)] {
			t.Fatalf("%q may not be there", f.Path)
		}
		small[name.Fold(f.Path)] = true
		if f.Dir {
			dirs[f.Path] = true
		}
	}
}

// paths wants the paths of a tree's image, in order, those of folders with a / behind them, and answers the image.
func paths(t *testing.T, x *move.Tree, want ...string) []api.File {
	t.Helper()
	l := of(t, x)
	if got := marked(l); !slices.Equal(got, want) {
		t.Fatalf("Of: %q, not %q", got, want)
	}
	return l
}

// marked is the paths of an image, those of folders with a / behind them.
func marked(l []api.File) []string {
	var all []string
	for _, f := range l {
		if f.Dir {
			f.Path += "/"
		}
		all = append(all, f.Path)
	}
	return all
}

// drawnNames are such that are the same, the same but for their letters, must be fixed, or look as if they were numbered.
var drawnNames = []string{"a", "A", "a~1", "A~2", "b", "b!", "b.", "b-", "b b", "c/d", "", ".", "_", "long name with more bytes than may be", strings.Repeat("x", 31), strings.Repeat("X", 32)}

// drawnTree is operations of drawn times on some things, of which most do something.
func drawnTree(draw func(int) int) *move.Tree {
	t := move.New()
	things := 2 + draw(25)
	some := func() uint64 { return uint64(16 * draw(things)) }
	for i := 1; i < things; i++ {
		// Below some of those ahead of it: so that folders stand deep, too.
		o := dir(uint64(16*i), uint64(16*max(0, i-1-draw(3))), drawnNames[draw(len(drawnNames))])
		o.Dir = draw(5) > 0
		t.Add(entry(100+i, o))
	}
	for range draw(40) {
		o := moved(some(), some(), drawnNames[draw(len(drawnNames))])
		switch draw(8) {
		case 0:
			o = deleted(some())
		case 1, 2:
			o = content(some(), "xyz"[draw(3):][:1], draw(9000))
		case 3, 4:
			o = file(uint64(1000+draw(20)), some(), o.Name)
		}
		t.Add(entry(100+draw(things+200), o))
	}
	return t
}
