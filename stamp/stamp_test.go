package stamp_test

import (
	"arbour/api"
	"arbour/stamp"
	"arbour/wire"
	"fmt"
	"math"
	"math/big"
	"slices"
	"strings"
	"testing"
)

// greatest is the greatest count that may be, as the document's limit says it.
const greatest = 1<<48 - 1

// goodCounts is counts that may be.
func goodCounts() []uint64 {
	return []uint64{1, 2, 7, 15, 16, 17, 255, 256, math.MaxUint32, 1 << 32, 1<<32 + 1, 0x123456789abc, greatest - 1, greatest}
}

// badCounts is counts that may not be.
func badCounts() []uint64 {
	return []uint64{0, greatest + 1, greatest + 2, 1 << 52, 1 << 60, 1<<60 + 1, math.MaxInt64, 1 << 63, math.MaxUint64 - 1, math.MaxUint64}
}

// badWhos is replicas that there are not, some of which have a right one's lowest byte or bits.
func badWhos() []int {
	return []int{-1, -2, -16, -256, math.MinInt32, math.MinInt, math.MinInt + 1, 16, 17, 32, 255, 256, 257, 1 << 32, math.MaxInt32, math.MaxInt}
}

// goodTimes is each replica's times.
func goodTimes() []api.Stamp {
	var all []api.Stamp
	for _, count := range goodCounts() {
		for who := range 16 {
			all = append(all, api.Stamp{Count: count, Who: who})
		}
	}
	return all
}

// badTimes is times that may not be: by their counts, by who it was, and by both.
func badTimes() []api.Stamp {
	var all []api.Stamp
	for _, count := range badCounts() {
		for who := range 16 {
			all = append(all, api.Stamp{Count: count, Who: who})
		}
	}
	for _, who := range badWhos() {
		for _, count := range slices.Concat(goodCounts(), badCounts()) {
			all = append(all, api.Stamp{Count: count, Who: who})
		}
	}
	return all
}

// drawer draws numbers below others, the same ones each time.
func drawer(seed uint32) func(n int) int {
	return func(n int) int {
		seed = seed*1664525 + 1013904223
		return int(seed>>8) % n
	}
}

// The limits that the chapter's numbers hang on.
func TestLimits(t *testing.T) {
	if api.MaxCount != greatest || api.MaxReplicas != 16 || api.ErrStamp != 40 || api.Root != 0 || api.Trash != 1 {
		t.Fatal("package api has other limits")
	}
}

// 4.1: each replica's times, at both ends of the counts.
func TestCheckMayBe(t *testing.T) {
	for _, s := range goodTimes() {
		if e := stamp.Check(s); e != api.OK {
			t.Errorf("Check(%v): %d", s, int(e))
		}
	}
}

// 4.1: counts and replicas just outside, and far outside.
func TestCheckMayNotBe(t *testing.T) {
	for _, s := range badTimes() {
		if e := stamp.Check(s); e != api.ErrStamp {
			t.Errorf("Check(%v): %d, not %d", s, int(e), int(api.ErrStamp))
		}
	}
	if e := stamp.Check(api.Stamp{}); e != api.ErrStamp {
		t.Errorf("Check of no time: %d", int(e))
	}
}

// sign is -1, 0 or 1.
func sign(n int) int { return min(max(n, -1), 1) }

// 4.1: equal times, and times unlike in one thing or in both, each way round.
func TestCompare(t *testing.T) {
	for _, c := range []struct {
		a, b api.Stamp
		want int
	}{
		{api.Stamp{}, api.Stamp{}, 0},
		{api.Stamp{Count: 1}, api.Stamp{Count: 1}, 0},
		{api.Stamp{Count: greatest, Who: 15}, api.Stamp{Count: greatest, Who: 15}, 0},
		// in their counts alone
		{api.Stamp{Count: 1, Who: 3}, api.Stamp{Count: 2, Who: 3}, -1},
		{api.Stamp{Count: 1}, api.Stamp{Count: greatest}, -1},
		{api.Stamp{Count: greatest - 1, Who: 15}, api.Stamp{Count: greatest, Who: 15}, -1},
		{api.Stamp{Count: 1}, api.Stamp{Count: 1 << 32}, -1},
		{api.Stamp{Count: 1}, api.Stamp{Count: 1<<32 + 1}, -1},
		// in who it was alone
		{api.Stamp{Count: 5}, api.Stamp{Count: 5, Who: 1}, -1},
		{api.Stamp{Count: 5, Who: 14}, api.Stamp{Count: 5, Who: 15}, -1},
		{api.Stamp{Count: greatest}, api.Stamp{Count: greatest, Who: 15}, -1},
		// in both: the count goes ahead of who it was
		{api.Stamp{Count: 1, Who: 3}, api.Stamp{Count: 2}, -1},
		{api.Stamp{Count: 1, Who: 15}, api.Stamp{Count: 2}, -1},
		{api.Stamp{Count: 1}, api.Stamp{Count: 2, Who: 15}, -1},
		{api.Stamp{Count: 15, Who: 15}, api.Stamp{Count: 16}, -1},
		// times that may not be are in order, too, at numbers whose difference is none of the type
		{api.Stamp{}, api.Stamp{Count: math.MaxUint64}, -1},
		{api.Stamp{Count: 1}, api.Stamp{Count: 1 << 63}, -1},
		{api.Stamp{Count: math.MaxInt64}, api.Stamp{Count: 1 << 63}, -1},
		{api.Stamp{Count: 5, Who: -1}, api.Stamp{Count: 5}, -1},
		{api.Stamp{Count: 5, Who: math.MinInt}, api.Stamp{Count: 5, Who: math.MaxInt}, -1},
		{api.Stamp{Count: 5, Who: math.MinInt}, api.Stamp{Count: 5, Who: 1}, -1},
		{api.Stamp{Count: 4, Who: math.MaxInt}, api.Stamp{Count: 5, Who: math.MinInt}, -1},
	} {
		if got := sign(stamp.Compare(c.a, c.b)); got != c.want {
			t.Errorf("Compare(%v, %v): %d, not %d", c.a, c.b, got, c.want)
		}
		if got := sign(stamp.Compare(c.b, c.a)); got != -c.want {
			t.Errorf("Compare(%v, %v): %d, not %d", c.b, c.a, got, -c.want)
		}
	}
}

// place is where a time stands, as one number by the words of the document alone.
func place(s api.Stamp) *big.Int {
	n := new(big.Int).SetUint64(s.Count)
	n.Lsh(n, 80)
	return n.Add(n, big.NewInt(int64(s.Who)))
}

// 4.1: each two of many times.
func TestCompareAll(t *testing.T) {
	all := append(goodTimes(), badTimes()...)
	places := make([]*big.Int, len(all))
	for i, s := range all {
		places[i] = place(s)
	}
	for i, a := range all {
		for j, b := range all {
			if got, want := sign(stamp.Compare(a, b)), places[i].Cmp(places[j]); got != want {
				t.Fatalf("Compare(%v, %v): %d, not %d", a, b, got, want)
			}
		}
	}
}

// 4.1: the things' numbers, known ones and each replica's.
func TestThing(t *testing.T) {
	for s, want := range map[api.Stamp]uint64{
		{Count: 1}:                    16,
		{Count: 1, Who: 15}:           31,
		{Count: 2}:                    32,
		{Count: 3, Who: 2}:            50,
		{Count: 8, Who: 2}:            130,
		{Count: greatest}:             0xffffffffffff0,
		{Count: greatest, Who: 15}:    0xfffffffffffff,
		{Count: 1 << 32, Who: 1}:      0x1000000001,
		{Count: 0x123456789a, Who: 5}: 0x123456789a5,
	} {
		if got := stamp.Thing(s); got != want {
			t.Errorf("Thing(%v): %d, not %d", s, got, want)
		}
	}
	seen := make(map[uint64]api.Stamp)
	for _, s := range goodTimes() {
		n := stamp.Thing(s)
		if n/16 != s.Count || int(n%16) != s.Who || !stamp.Made(n) {
			t.Errorf("Thing(%v): %d", s, n)
		}
		if other, ok := seen[n]; ok {
			t.Errorf("Thing(%v) is Thing(%v)", s, other)
		}
		seen[n] = s
	}
}

// 4.1: no thing is made at a time that may not be.
func TestThingOfNoTime(t *testing.T) {
	for _, s := range badTimes() {
		if n := stamp.Thing(s); n != 0 {
			t.Errorf("Thing(%v): %d", s, n)
		}
	}
}

// 4.1: things are in the order of the times at which they were made.
func TestThingOrder(t *testing.T) {
	for _, a := range goodTimes() {
		for _, b := range goodTimes() {
			less := stamp.Thing(a) < stamp.Thing(b)
			if less != (stamp.Compare(a, b) < 0) {
				t.Fatalf("%v and %v: things %d and %d", a, b, stamp.Thing(a), stamp.Thing(b))
			}
		}
	}
}

// 4.1: both ends of the numbers that were made, and those of Root and Trash.
func TestMade(t *testing.T) {
	const last = greatest*16 + 15
	for _, n := range []uint64{16, 17, 31, 32, 130, 1 << 16, 1 << 32, 1 << 48, 1 << 51, last - 16, last - 1, last} {
		if !stamp.Made(n) {
			t.Errorf("Made(%d): false", n)
		}
	}
	for _, n := range []uint64{api.Root, api.Trash, last + 1, last + 2, last + 16, 1 << 52, 1<<52 + 16, 1<<56 + 16, 1 << 63, 1<<63 + 16, math.MaxUint64 - 1, math.MaxUint64} {
		if stamp.Made(n) {
			t.Errorf("Made(%d): true", n)
		}
	}
	for n := range uint64(16) {
		if stamp.Made(n) {
			t.Errorf("Made(%d): true", n)
		}
	}
}

// digits is a time's bytes by the words of the document alone.
func digits(s api.Stamp) string { return fmt.Sprintf("%016x%02x", s.Count, byte(s.Who)) }

// 4.1: the bytes of known times, of many, and of those that may not be.
func TestPut(t *testing.T) {
	w := wire.NewWriter()
	stamp.Put(w, api.Stamp{Count: 258, Who: 11})
	if w.All() != "00000000000001020b" {
		t.Errorf("Put: %q", w.All())
	}
	for _, s := range append(goodTimes(), badTimes()...) {
		w := wire.NewWriter()
		stamp.Put(w, s)
		stamp.Put(w, s)
		if w.All() != digits(s)+digits(s) {
			t.Fatalf("Put(%v), twice: %q, not %q", s, w.All(), digits(s)+digits(s))
		}
	}
}

// 4.1: what was put is taken again, one behind the other, among other things.
func TestTakenAgain(t *testing.T) {
	all, draw := goodTimes(), drawer(3)
	for range 200 {
		var put []api.Stamp
		w := wire.NewWriter()
		w.Text("ahead")
		for range draw(40) {
			s := all[draw(len(all))]
			put = append(put, s)
			stamp.Put(w, s)
			w.Bool(true)
		}
		r := wire.NewReader(w.All())
		r.Text(5)
		for _, want := range put {
			at := r.At()
			if got := stamp.Take(r); got != want || r.Err() != api.OK || r.At() != at+18 {
				t.Fatalf("Take at %d: %v, %d, at %d; not %v", at, got, int(r.Err()), r.At(), want)
			}
			r.Bool()
		}
		if e := r.End(); e != api.OK {
			t.Fatalf("the end: %d", int(e))
		}
	}
}

// refused wants an error of the reader and no time, and that both stay so.
func refused(t *testing.T, what string, r *wire.Reader, want api.Errno) {
	t.Helper()
	for range 2 {
		if got := stamp.Take(r); got != (api.Stamp{}) || r.Err() != want {
			t.Fatalf("Take of %s: %v, %d; not %d", what, got, int(r.Err()), int(want))
		}
		r.Fail(api.ErrNone)
		if r.Err() != want || r.End() != want {
			t.Fatalf("%s: the error is %d, not %d any more", what, int(r.Err()), int(want))
		}
	}
}

// 4.1: bytes that end at each place of a time; no part of one is told.
func TestTakeCut(t *testing.T) {
	for _, s := range []api.Stamp{{Count: 1}, {Count: 5, Who: 3}, {Count: greatest, Who: 15}, {}, {Count: math.MaxUint64, Who: -1}} {
		for n := range 18 {
			refused(t, fmt.Sprintf("%d bytes of %v", n, s), wire.NewReader(digits(s)[:n]), api.ErrCut)
		}
	}
}

// 4.1: letters that are no digits, at each place.
func TestTakeLetters(t *testing.T) {
	whole := digits(api.Stamp{Count: 5, Who: 3})
	for i := range whole {
		for c := range 256 {
			if strings.IndexByte("0123456789abcdef", byte(c)) >= 0 {
				continue
			}
			s := whole[:i] + string([]byte{byte(c)}) + whole[i+1:]
			refused(t, fmt.Sprintf("%q", s), wire.NewReader(s), api.ErrForm)
			refused(t, fmt.Sprintf("%q", s+whole), wire.NewReader(s+whole), api.ErrForm)
		}
	}
}

// 4.1: a count or a replica that may not be.
func TestTakeMayNotBe(t *testing.T) {
	for _, count := range badCounts() {
		for who := range 256 {
			s := digits(api.Stamp{Count: count, Who: who})
			refused(t, s, wire.NewReader(s), api.ErrStamp)
		}
	}
	good := digits(api.Stamp{Count: 1})
	for _, count := range goodCounts() {
		for who := range 256 {
			want := api.Stamp{Count: count, Who: who}
			s := digits(want)
			if who >= 16 {
				refused(t, s, wire.NewReader(s), api.ErrStamp)
				refused(t, s, wire.NewReader(s+good), api.ErrStamp)
				continue
			}
			r := wire.NewReader(s)
			if got := stamp.Take(r); got != want || r.End() != api.OK {
				t.Fatalf("Take of %s: %v, %d", s, got, int(r.Err()))
			}
		}
	}
}

// 4.1: which error is the reader's: that of the bytes ahead of that of the time.
func TestTakeFirst(t *testing.T) {
	for s, want := range map[string]api.Errno{
		"":                      api.ErrCut,
		"000000000000000":       api.ErrCut,
		"zzzzzzzzzzzzzzz":       api.ErrCut,
		"000000000000000z":      api.ErrForm, // a count that is none, ahead of a replica that is not there
		"0000000000000000":      api.ErrCut,  // a count that may not be, ahead of a replica that is not there
		"ffffffffffffffff1":     api.ErrCut,
		"ffffffffffffffffzz":    api.ErrForm,
		"0000000000000005zz":    api.ErrForm,
		"000000000000000510":    api.ErrStamp,
		"00000000000000000z":    api.ErrForm,
		"000000000000000000":    api.ErrStamp,
		"0001000000000000ff":    api.ErrStamp,
		"000000000000000000yyy": api.ErrStamp,
		"0000000000000005FF":    api.ErrForm,
	} {
		refused(t, fmt.Sprintf("%q", s), wire.NewReader(s), want)
	}
}

// 4.1: an error that the reader had stays, whatever the bytes are; nothing is taken.
func TestTakeBehindError(t *testing.T) {
	for _, s := range []string{"", "z", digits(api.Stamp{Count: 5, Who: 3}), digits(api.Stamp{}), strings.Repeat("z", 18)} {
		for _, e := range []api.Errno{api.ErrArg, api.ErrNone, api.ErrMore, api.ErrOp} {
			r := wire.NewReader(s)
			r.Fail(e)
			refused(t, fmt.Sprintf("%q behind %d", s, int(e)), r, e)
			if r.At() != 0 || r.Left() != len(s) {
				t.Fatalf("Take behind an error took %d bytes of %q", r.At(), s)
			}
		}
	}
}

// 4.1: a reader of nothing, a nil reader, a nil writer.
func TestNilReaderWriter(t *testing.T) {
	refused(t, "a nil reader", nil, api.ErrArg)
	var w *wire.Writer
	for _, s := range append(goodTimes(), badTimes()...) {
		stamp.Put(w, s)
	}
	if w.Len() != 0 || w.All() != "" {
		t.Errorf("a nil writer has %q", w.All())
	}
}
