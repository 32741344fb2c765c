package wire

import (
	"arbour/api"
	"strings"
)

const (
	yes = "y"
	no  = "n"
)

// Writer gathers bytes.
type Writer struct{ b strings.Builder }

// NewWriter is a writer of nothing.
func NewWriter() *Writer { return &Writer{} }

// Bytes puts bytes.
func (w *Writer) Bytes(s string) {
	if w != nil {
		w.b.WriteString(s)
	}
}

// Number puts a number.
func (w *Writer) Number(n uint64, bytes int) { w.Bytes(Number(n, bytes)) }

// Count puts a count.
func (w *Writer) Count(n int) { w.Number(uint64(max(n, 0)), countBytes) }

// Text puts a text.
func (w *Writer) Text(s string) {
	w.Bytes(count(s))
	w.Bytes(s)
}

// Hash puts a digest: cut, or filled up with noughts.
func (w *Writer) Hash(s string) {
	var b [api.HashBytes]byte
	copy(b[:], s)
	w.Bytes(string(b[:]))
}

// Bool puts yes or no.
func (w *Writer) Bool(b bool) {
	if b {
		w.Bytes(yes)
	} else {
		w.Bytes(no)
	}
}

// Len is how many bytes were put.
func (w *Writer) Len() int {
	if w == nil {
		return 0
	}
	return w.b.Len()
}

// All is the bytes.
func (w *Writer) All() string {
	if w == nil {
		return ""
	}
	return w.b.String()
}
