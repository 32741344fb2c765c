package disk

import (
	"arbour/api"
	"slices"
)

// file is a file's bytes, and which of them a loss of power may take.
type file struct {
	settled bool // whether it is there whatever comes
	sure    []byte
	loose   []piece
}

// piece is what a file has behind a change that is not sure: those bytes from its place from on came by it. Pieces share the bytes ahead of that with those before them: bytes are only ever put behind the last piece's, where none of the others has any.
type piece struct {
	all  []byte
	from int
}

// now is the bytes that it has.
func (f *file) now() []byte {
	if n := len(f.loose); n > 0 {
		return f.loose[n-1].all
	}
	return f.sure
}

// put lets it have s behind the bytes that stay of it.
func (f *file) put(stay []byte, s string) {
	f.loose = append(f.loose, piece{all: append(stay, s...), from: len(stay)})
}

// settle makes it sure that it is there, and that it has these bytes.
func (f *file) settle(b []byte) {
	f.settled, f.sure, f.loose = true, b, nil
}

// fall leaves what a loss of power leaves of it: whether it is there then.
func (f *file) fall(keep, torn int) bool {
	keep = min(max(keep, 0), len(f.loose))
	there, b := f.settled, f.sure
	if keep > 0 {
		there, b = true, f.loose[keep-1].all
	}
	if torn > 0 && keep < len(f.loose) {
		there, b = true, f.loose[keep].torn(torn)
	}
	f.settle(b)
	return there
}

// torn is what the file has if of this piece only so many times TornBytes bytes come to the disk.
func (p piece) torn(times int) []byte {
	// By a division: the product may be greater than any number.
	if times > (len(p.all)-p.from)/api.TornBytes {
		return p.all
	}
	return p.all[:p.from+times*api.TornBytes]
}

// clone is a file of its own that is the same: its pieces share bytes among themselves alone.
func (f *file) clone() *file {
	c := &file{settled: f.settled, sure: slices.Clone(f.sure)}
	for _, p := range f.loose {
		stay := c.now()
		if p.from == 0 {
			stay = nil
		}
		c.put(stay, string(p.all[p.from:]))
	}
	return c
}
