package wire_test

import (
	"arbour/api"
	"arbour/wire"
	"fmt"
	"math"
	"strings"
	"testing"
)

// holds wants the bytes of a writer.
func holds(t *testing.T, what string, w *wire.Writer, want string) {
	t.Helper()
	if w.All() != want || w.Len() != len(want) {
		t.Fatalf("%s: %.80q, %d bytes; not %.80q", what, w.All(), w.Len(), want)
	}
}

// puts wants that a call puts bytes, behind nothing and behind others.
func puts(t *testing.T, what string, put func(w *wire.Writer), want string) {
	t.Helper()
	w := wire.NewWriter()
	holds(t, "NewWriter", w, "")
	put(w)
	holds(t, what, w, want)
	put(w)
	holds(t, what+", twice", w, want+want)
	w.Bytes("\xffz")
	holds(t, what+", twice, and bytes", w, want+want+"\xffz")
}

// 3.3: bytes and texts.
func TestWriterBytes(t *testing.T) {
	for _, s := range texts() {
		puts(t, "Bytes", func(w *wire.Writer) { w.Bytes(s) }, s)
		puts(t, "Text", func(w *wire.Writer) { w.Text(s) }, fmt.Sprintf("%08x", len(s))+s)
	}
	puts(t, "Text", func(w *wire.Writer) { w.Text("abc") }, "00000003abc")
}

// 3.3: numbers, those that do not fit among them.
func TestWriterNumber(t *testing.T) {
	for _, n := range numbers() {
		whole := fmt.Sprintf("%016x", n)
		for _, bytes := range []int{math.MinInt, -1, 0, 1, 2, 3, 4, 5, 6, 7, 8, 9, math.MaxInt} {
			puts(t, "Number", func(w *wire.Writer) { w.Number(n, bytes) }, whole[16-2*min(max(bytes, 0), 8):])
		}
	}
}

// 3.3: counts, below 0 and of more than 4 bytes among them.
func TestWriterCount(t *testing.T) {
	for n, want := range map[int]string{
		0: "00000000", 1: "00000001", 10: "0000000a", 255: "000000ff", 256: "00000100", math.MaxInt32: "7fffffff",
		-1: "00000000", -2: "00000000", math.MinInt32: "00000000", math.MinInt: "00000000",
		1 << 31: "80000000", math.MaxUint32: "ffffffff", 1 << 32: "00000000", 1<<32 + 258: "00000102", 0x123456789a: "3456789a", math.MaxInt: "ffffffff",
	} {
		puts(t, fmt.Sprintf("Count(%d)", n), func(w *wire.Writer) { w.Count(n) }, want)
	}
}

// 3.3: digests that are shorter, just 32 bytes, longer.
func TestWriterHash(t *testing.T) {
	for n := range 70 {
		s := strings.Repeat("\xab", n)
		want := (s + strings.Repeat("\x00", 32))[:32]
		puts(t, fmt.Sprintf("Hash of %d bytes", n), func(w *wire.Writer) { w.Hash(s) }, want)
	}
	puts(t, "Hash", func(w *wire.Writer) { w.Hash(text(32)) }, text(32))
	puts(t, "Hash", func(w *wire.Writer) { w.Hash(text(70000)) }, text(32))
}

// 3.3: yes and no.
func TestWriterBool(t *testing.T) {
	puts(t, "Bool(true)", func(w *wire.Writer) { w.Bool(true) }, "y")
	puts(t, "Bool(false)", func(w *wire.Writer) { w.Bool(false) }, "n")
}

// 3.3: all of them, one behind the other; what was told stays as it was.
func TestWriterAll(t *testing.T) {
	w := wire.NewWriter()
	w.Number(258, 2)
	first := w.All()
	w.Text("abc")
	w.Bool(true)
	second := w.All()
	w.Hash("h")
	w.Count(7)
	w.Bool(false)
	w.Bytes("end")
	holds(t, "all", w, "0102"+"00000003abc"+"y"+"h"+strings.Repeat("\x00", 31)+"00000007"+"n"+"end")
	if first != "0102" || second != "010200000003abcy" {
		t.Errorf("what was told has changed: %q, %q", first, second)
	}
	holds(t, "another one", wire.NewWriter(), "")
}

// 3.3: a nil writer.
func TestWriterNil(t *testing.T) {
	var w *wire.Writer
	for _, put := range []func(){
		func() { w.Bytes("a") }, func() { w.Number(1, 1) }, func() { w.Count(1) }, func() { w.Text("a") },
		func() { w.Hash("a") }, func() { w.Bool(true) }, func() { w.Bool(false) },
	} {
		put()
		holds(t, "nil", w, "")
	}
}

// pair is something that is put, and the call that takes it again.
type pair struct {
	put  func(w *wire.Writer)
	call call
	want any
}

func pairs() []pair {
	all := []pair{
		{func(w *wire.Writer) { w.Bool(true) }, takeBool(), true},
		{func(w *wire.Writer) { w.Bool(false) }, takeBool(), false},
		{func(w *wire.Writer) { w.Hash(text(32)) }, takeHash(), text(32)},
		{func(w *wire.Writer) { w.Hash("h") }, takeHash(), "h" + strings.Repeat("\x00", 31)},
	}
	for _, s := range []string{"", "a", "y", "00000000", text(300)} {
		all = append(all,
			pair{func(w *wire.Writer) { w.Bytes(s) }, takeBytes(len(s)), s},
			pair{func(w *wire.Writer) { w.Text(s) }, takeText(len(s)), s},
			pair{func(w *wire.Writer) { w.Text(s) }, takeText(math.MaxInt), s})
	}
	for _, n := range []int{0, 1, 255, 65536, math.MaxInt32, math.MaxUint32} {
		all = append(all, pair{func(w *wire.Writer) { w.Count(n) }, takeCount(n), n})
	}
	for _, n := range numbers() {
		for bytes := range 9 {
			if low := n & (1<<(8*bytes) - 1); low == n {
				all = append(all, pair{func(w *wire.Writer) { w.Number(n, bytes) }, takeNumber(bytes), n})
			}
		}
	}
	return all
}

// 3.4: what was put, in many orders, is taken again.
func TestTakenAgain(t *testing.T) {
	all := pairs()
	draw := drawer(7)
	for round := range 300 {
		order := make([]int, 1+draw(60))
		for i := range order {
			order[i] = draw(len(all))
		}
		if round == 0 {
			order = make([]int, len(all))
			for i := range order {
				order[i] = i
			}
		}
		takenAgain(t, all, order)
	}
}

func takenAgain(t *testing.T, all []pair, order []int) {
	t.Helper()
	w := wire.NewWriter()
	for _, i := range order {
		all[i].put(w)
	}
	r := wire.NewReader(w.All())
	for _, i := range order {
		at := r.At()
		if got := all[i].call.do(r); got != all[i].want || r.Err() != api.OK {
			t.Fatalf("%s at %d: %s, %d; not %s", all[i].call.name, at, short(got), int(r.Err()), short(all[i].want))
		}
	}
	if r.End() != api.OK || r.At() != w.Len() {
		t.Fatalf("the end: %d, at %d of %d", int(r.End()), r.At(), w.Len())
	}
}

// 3.4: frames as texts within frames are taken again.
func TestFramesAgain(t *testing.T) {
	for _, s := range texts() {
		whole := s
		for range 5 {
			whole = wire.Frame(whole)
		}
		for range 5 {
			inner, behind, e := wire.Unframe(whole, 0)
			if e != api.OK || behind != len(whole) {
				t.Fatalf("%.60q: %d, %d", whole, behind, int(e))
			}
			whole = inner
		}
		if whole != s {
			t.Fatalf("%.60q, not %.60q", whole, s)
		}
	}
}
