package wire

import (
	"arbour/api"
)

// Reader goes through bytes; what it took with an error it gives back.
type Reader struct {
	s   string
	at  int
	err api.Errno
}

// NewReader is a reader ahead of bytes.
func NewReader(s string) *Reader { return &Reader{s: s} }

// Fail lays an error, if it has none.
func (r *Reader) Fail(e api.Errno) {
	if r.Err() == api.OK {
		r.err = e
	}
}

// giveBack lays an error, and goes back to where a call began: with an error it takes nothing.
func (r *Reader) giveBack(from int, e api.Errno) {
	if r.Err() == api.OK {
		r.at, r.err = from, e
	}
}

// Bytes takes so many bytes.
func (r *Reader) Bytes(n int) string {
	switch {
	case n < 0:
		r.Fail(api.ErrArg)
	case n > r.Left():
		r.Fail(api.ErrCut)
	}
	if r.Err() != api.OK {
		return ""
	}
	r.at += n
	return r.s[r.at-n : r.at]
}

// Number takes a number of so many bytes; other letters than digits are not of the form.
func (r *Reader) Number(bytes int) uint64 {
	if bytes < 0 || bytes > numberBytes {
		r.Fail(api.ErrArg)
		return 0
	}
	from := r.At()
	n, ok := value(r.Bytes(2 * bytes))
	if !ok {
		r.giveBack(from, api.ErrForm)
	}
	return n
}

// Count takes a count that may be at most so great.
func (r *Reader) Count(most int) int {
	from := r.At()
	n := r.Number(countBytes)
	if most < 0 || n > uint64(most) {
		r.giveBack(from, api.ErrMany)
		return 0
	}
	return int(n)
}

// Text takes a text of at most so many bytes.
func (r *Reader) Text(most int) string {
	from := r.At()
	n := r.Count(most)
	if n > r.Left() {
		// Asked ahead of Bytes, which would keep the count as taken.
		r.giveBack(from, api.ErrCut)
	}
	return r.Bytes(n)
}

// Hash takes a digest.
func (r *Reader) Hash() string { return r.Bytes(api.HashBytes) }

// Bool takes yes or no: a letter y or n.
func (r *Reader) Bool() bool {
	from := r.At()
	switch r.Bytes(1) {
	case yes:
		return true
	case no:
		return false
	}
	r.giveBack(from, api.ErrForm)
	return false
}

// Err is its error.
func (r *Reader) Err() api.Errno {
	if r == nil {
		return api.ErrArg
	}
	return r.err
}

// At is how many bytes were taken.
func (r *Reader) At() int {
	if r == nil {
		return 0
	}
	return r.at
}

// Left is how many bytes are left.
func (r *Reader) Left() int {
	if r == nil {
		return 0
	}
	return len(r.s) - r.at
}

// End is its error; ErrMore, if bytes are left.
func (r *Reader) End() api.Errno {
	if r.Left() > 0 {
		r.Fail(api.ErrMore)
	}
	return r.Err()
}
