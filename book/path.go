package book

import (
	"arbour/api"
	"arbour/image"
	"arbour/name"
)

// Image is its files and folders.
func (b *Book) Image() []api.File { return image.Of(b.Tree()) }

// Create makes a file without bytes, or a folder.
func (b *Book) Create(path string, dir bool) api.Errno {
	if b.Dead() {
		return api.ErrDead
	}
	p, e := free(b.Image(), path)
	if e != api.OK {
		return e
	}
	return b.do(api.Op{Kind: api.OpCreate, Parent: p.folder, Name: p.name, Dir: dir})
}

// Move gives something another path.
func (b *Book) Move(from, to string) api.Errno {
	if b.Dead() {
		return api.ErrDead
	}
	l := b.Image()
	f, there := image.Find(l, from)
	if !there {
		return api.ErrNone
	}
	p, e := free(l, to)
	if e != api.OK {
		return e
	}
	if b.tree.Below(p.folder, f.ID) {
		return api.ErrArg
	}
	return b.do(api.Op{Kind: api.OpMove, Thing: f.ID, Parent: p.folder, Name: p.name})
}

// Delete lets something go, with all below.
func (b *Book) Delete(path string) api.Errno {
	if b.Dead() {
		return api.ErrDead
	}
	f, there := image.Find(b.Image(), path)
	if !there {
		return api.ErrNone
	}
	return b.do(api.Op{Kind: api.OpDelete, Thing: f.ID})
}

// Write gives a file other bytes.
func (b *Book) Write(path, s string) api.Errno {
	if b.Dead() {
		return api.ErrDead
	}
	f, there := image.Find(b.Image(), path)
	if !there {
		return api.ErrNone
	}
	if f.Dir || len(s) > api.MaxFile {
		return api.ErrArg
	}
	digest, e := b.add(s)
	if e != api.OK {
		return e
	}
	// The bytes are kept ahead of the operation, which may be refused: no operation tells of bytes that nobody has.
	if e := b.keep(fileMark + s); e != api.OK {
		return e
	}
	return b.do(api.Op{Kind: api.OpContent, Thing: f.ID, Digest: digest, Size: len(s)})
}

// place is where something may come: below which thing, with which name.
type place struct {
	folder uint64
	name   string
}

// free is the place of a path at which nothing stands yet.
func free(l []api.File, path string) (place, api.Errno) {
	if !name.Path(path) {
		return place{}, api.ErrArg
	}
	if _, there := image.Find(l, path); there {
		return place{}, api.ErrThere
	}
	above, last := name.Split(path)
	if above == "" {
		return place{api.Root, last}, api.OK
	}
	f, _ := image.Find(l, above)
	if !f.Dir {
		return place{}, api.ErrNone
	}
	return place{f.ID, last}, api.OK
}
