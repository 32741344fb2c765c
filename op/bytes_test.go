package op_test

import (
	"arbour/api"
	"arbour/op"
	"arbour/wire"
	"crypto/sha512"
	"encoding/binary"
	"fmt"
	"math"
	"strings"
	"testing"
)

// head is what all kinds have, in bytes, by the words of the document alone.
func head(kind byte, at api.Stamp, thing uint64) string {
	return fmt.Sprintf("%02x%016x%02x%016x", kind, at.Count, byte(at.Who), thing)
}

// text is a text in bytes.
func text(s string) string { return fmt.Sprintf("%08x", len(s)) + s }

// bytesOf is the bytes of an operation that may be, by the words of the document alone.
func bytesOf(o api.Op) string {
	s := head(byte(o.Kind), o.At, o.Thing)
	dir := "n"
	if o.Dir {
		dir = "y"
	}
	switch o.Kind {
	case 1:
		return s + dir + fmt.Sprintf("%016x", o.Parent) + text(o.Name)
	case 2:
		return s + fmt.Sprintf("%016x", o.Parent) + text(o.Name)
	case 4:
		return s + o.Digest + fmt.Sprintf("%08x", o.Size)
	}
	return s
}

// decoded wants the operation of bytes.
func decoded(t *testing.T, s string, want api.Op) {
	t.Helper()
	if o, e := op.Decode(s); o != want || e != api.OK {
		t.Fatalf("Decode(%q): %v, %d; not %v", s, o, int(e), want)
	}
}

// refused wants an error of bytes, of Decode and of Take, and no operation; the reader keeps the error.
func refused(t *testing.T, s string, want api.Errno) {
	t.Helper()
	if o, e := op.Decode(s); o != (api.Op{}) || e != want {
		t.Fatalf("Decode(%q): %v, %d; not %d", s, o, int(e), int(want))
	}
	untaken(t, s, wire.NewReader(s), want)
}

// untaken wants an error of a reader and no operation, and that both stay so.
func untaken(t *testing.T, what string, r *wire.Reader, want api.Errno) {
	t.Helper()
	for range 2 {
		if o := op.Take(r); o != (api.Op{}) || r.Err() != want {
			t.Fatalf("Take of %q: %v, %d; not %d", what, o, int(r.Err()), int(want))
		}
		r.Fail(api.ErrNone)
		if r.Err() != want || r.End() != want {
			t.Fatalf("%q: the error is %d, not %d any more", what, int(r.Err()), int(want))
		}
	}
}

// 5.1: the bytes of an operation of each kind, written out.
func TestEncode(t *testing.T) {
	for want, o := range map[string]api.Op{
		"01" + "0000000000000003" + "02" + "0000000000000032" + "y" + "0000000000000021" + "00000001a":          create(),
		"01" + "0000000000000003" + "02" + "0000000000000032" + "n" + "0000000000000000" + "00000003b/c":        {Kind: 1, At: at(), Thing: 50, Name: "b/c"},
		"02" + "0000000000000003" + "02" + "0000000000000014" + "0000000000000021" + "00000001b":                move(),
		"03" + "0000000000000003" + "02" + "0000000000000014":                                                   away(),
		"04" + "0000000000000003" + "02" + "0000000000000014" + "dddddddddddddddddddddddddddddddd" + "00000007": content(),
		"04" + "0000ffffffffffff" + "0f" + "000fffffffffffff" + anyBytes(0, 32) + "00002000":                    {Kind: 4, At: api.Stamp{Count: greatest, Who: 15}, Thing: last, Digest: anyBytes(0, 32), Size: 8192},
	} {
		if s, e := op.Encode(o); s != want || e != api.OK {
			t.Errorf("Encode(%v): %q, %d; not %q", o, s, int(e), want)
		}
		decoded(t, want, o)
	}
}

// 5.1: what was told is read again, for each kind, and unlike operations have unlike bytes.
func TestDecodeAgain(t *testing.T) {
	seen := make(map[string]api.Op)
	for _, o := range goodOps() {
		s, e := op.Encode(o)
		if e != api.OK {
			t.Fatalf("Encode(%v): %d", o, int(e))
		}
		if other, ok := seen[s]; ok && other != o {
			t.Fatalf("%v and %v have the same bytes", o, other)
		}
		seen[s] = o
		decoded(t, s, o)
	}
}

// 5.1: Check's error, and no bytes with it.
func TestEncodeMayNotBe(t *testing.T) {
	for _, o := range oneWrong() {
		if s, e := op.Encode(o); s != "" || e != api.ErrOp {
			t.Fatalf("Encode(%.200q): %.100q, %d", fmt.Sprint(o), s, int(e))
		}
		o.At.Count = 0
		if s, e := op.Encode(o); s != "" || e != api.ErrStamp {
			t.Fatalf("Encode(%.200q): %.100q, %d", fmt.Sprint(o), s, int(e))
		}
	}
}

// 5.1: bytes that end at each place.
func TestDecodeCut(t *testing.T) {
	refused(t, "", api.ErrCut)
	for _, o := range goodOps() {
		s := bytesOf(o)
		for n := range s {
			refused(t, s[:n], api.ErrCut)
		}
	}
}

// 5.1: bytes that go on too long; Take leaves them.
func TestDecodeMore(t *testing.T) {
	for _, o := range goodOps() {
		s := bytesOf(o)
		for _, more := range []string{"0", "n", "\x00", "zz", s} {
			if got, e := op.Decode(s + more); got != (api.Op{}) || e != api.ErrMore {
				t.Fatalf("Decode(%q): %v, %d", s+more, got, int(e))
			}
			r := wire.NewReader(s + more)
			if got := op.Take(r); got != o || r.Err() != api.OK || r.Left() != len(more) {
				t.Fatalf("Take of %q: %v, %d, with %d left", s+more, got, int(r.Err()), r.Left())
			}
		}
	}
}

// digitPlaces is the places in an operation's bytes that have digits.
func digitPlaces(o api.Op) []int {
	var l []int
	add := func(from, n int) {
		for i := range n {
			l = append(l, from+i)
		}
	}
	add(0, 36)
	switch o.Kind {
	case api.OpCreate:
		add(37, 24)
	case api.OpMove:
		add(36, 24)
	case api.OpContent:
		add(68, 8)
	}
	return l
}

// 5.1: letters that are no digits, at each place that should have one.
func TestDecodeLetters(t *testing.T) {
	for _, o := range kinds() {
		s := bytesOf(o)
		for _, i := range digitPlaces(o) {
			for c := range 256 {
				if strings.IndexByte("0123456789abcdef", byte(c)) < 0 {
					refused(t, s[:i]+string([]byte{byte(c)})+s[i+1:], api.ErrForm)
				}
			}
		}
	}
}

// 5.1: whether it is a folder is a letter y or n, and no other.
func TestDecodeDir(t *testing.T) {
	o := create()
	s := bytesOf(o)
	for c := range 256 {
		changed := s[:36] + string([]byte{byte(c)}) + s[37:]
		switch c {
		case 'y', 'n':
			o.Dir = c == 'y'
			decoded(t, changed, o)
		default:
			refused(t, changed, api.ErrForm)
		}
	}
}

// 5.1: names and digests are any bytes, at each place.
func TestDecodeAnyBytes(t *testing.T) {
	for c := range 256 {
		for i := range nameMost {
			b := []byte(strings.Repeat("m", nameMost))
			b[i] = byte(c)
			for _, o := range []api.Op{create(), move()} {
				o.Name = string(b)
				decoded(t, bytesOf(o), o)
			}
			o := content()
			o.Digest = string(b)
			decoded(t, bytesOf(o), o)
		}
	}
}

// 5.1: names by their lengths: more than may be is ErrMany, whether they are there or not; none is ErrOp.
func TestDecodeNames(t *testing.T) {
	for _, o := range []api.Op{create(), move()} {
		o.Name = ""
		s := strings.TrimSuffix(bytesOf(o), text(""))
		refused(t, s+text(""), api.ErrOp)
		refused(t, s+text("")+"a", api.ErrOp)
		for n := 1; n <= nameMost; n++ {
			o.Name = anyBytes(200, n)
			decoded(t, s+text(o.Name), o)
		}
		for _, n := range []int{nameMost + 1, nameMost + 2, 256, 257, 288, 65536 + 1} {
			refused(t, s+text(strings.Repeat("a", n)), api.ErrMany)
			refused(t, s+fmt.Sprintf("%08x", n), api.ErrMany)
			refused(t, s+fmt.Sprintf("%08x", n)+"a", api.ErrMany)
		}
		refused(t, s+"ffffffff", api.ErrMany)
		refused(t, s+"80000001a", api.ErrMany)
	}
}

// 5.1: sizes up to the most that a file may have, and above it.
func TestDecodeSizes(t *testing.T) {
	o := content()
	s := strings.TrimSuffix(bytesOf(o), "00000007")
	for _, n := range goodSizes() {
		o.Size = n
		decoded(t, s+fmt.Sprintf("%08x", n), o)
	}
	for _, n := range []uint32{fileMost + 1, fileMost + 2, 2 * fileMost, 1 << 16, math.MaxInt32, 1 << 31, 1<<31 + 7, math.MaxUint32} {
		refused(t, s+fmt.Sprintf("%08x", n), api.ErrMany)
		refused(t, s+fmt.Sprintf("%08x", n)+"0", api.ErrMany)
	}
}

// 5.1: a time that may not be, of each kind, of none, and ahead of bytes that end.
func TestDecodeTime(t *testing.T) {
	for kind := range 256 {
		for _, s := range []api.Stamp{{}, {Count: greatest + 1}, {Count: math.MaxUint64}, {Count: 3, Who: 16}, {Count: 3, Who: 255}} {
			for _, o := range append(kinds(), api.Op{}) {
				o.At = s
				whole := fmt.Sprintf("%02x", kind) + bytesOf(o)[2:]
				refused(t, whole, api.ErrStamp)
				refused(t, whole[:20], api.ErrStamp)
				refused(t, whole[:19], api.ErrCut)
			}
		}
	}
}

// 5.1: a kind that is none has no further bytes; whatever stands there is not looked at.
func TestDecodeKinds(t *testing.T) {
	for kind := range 256 {
		if kind >= api.OpCreate && kind <= api.OpContent {
			continue
		}
		for _, thing := range append(goodThings(), badThings()...) {
			s := head(byte(kind), at(), thing)
			refused(t, s, api.ErrOp)
			for _, more := range []string{"0", "y", "zzz", "y0000000000000021", "0000000000000021ffffffff", digest('d') + "ffffffff"} {
				refused(t, s+more, api.ErrOp)
			}
			r := wire.NewReader(s + "more")
			if op.Take(r); r.Left() != len("more") {
				t.Fatalf("Take of %q left %d bytes", s+"more", r.Left())
			}
		}
		s := head(byte(kind), at(), 20)
		for n := range s {
			refused(t, s[:n], api.ErrCut)
		}
	}
}

// 5.1: bytes of the form whose operation may not be: its thing, its parent.
func TestDecodeMayNotBe(t *testing.T) {
	for _, thing := range badThings() {
		for _, o := range kinds() {
			o.Thing = thing
			refused(t, bytesOf(o), api.ErrOp)
		}
	}
	for _, thing := range goodThings() {
		if o := create(); thing != o.Thing {
			o.Thing = thing
			refused(t, bytesOf(o), api.ErrOp)
		}
	}
	for _, o := range []api.Op{create(), move()} {
		for _, parent := range append(badThings()[1:], o.Thing) {
			o.Parent = parent
			refused(t, bytesOf(o), api.ErrOp)
		}
	}
}

// 5.1: which error it is where several apply: the reader's first one, Check's, ErrMore.
func TestDecodeFirst(t *testing.T) {
	good, none := api.Stamp{Count: 3, Who: 2}, api.Stamp{Count: 3, Who: 16}
	const root, trash = "0000000000000000", "0000000000000001"
	for _, c := range []struct {
		s    string
		want api.Errno
	}{
		// among the reader's: the one that stands first
		{"zz" + head(0, none, 0)[2:], api.ErrForm},
		{"zz", api.ErrForm},
		{"z", api.ErrCut},
		{head(1, none, 50)[:20] + "z", api.ErrStamp},
		{head(1, none, 50) + "z", api.ErrStamp},
		{head(2, none, 50) + root + "ffffffff", api.ErrStamp},
		{head(1, good, 50)[:20] + strings.Repeat("z", 15), api.ErrCut},
		{head(1, good, 50)[:20] + strings.Repeat("z", 16), api.ErrForm},
		{head(1, good, 50) + "z" + root + "ffffffff", api.ErrForm},
		{head(1, good, 50) + "y" + "g" + root[1:] + "ffffffff", api.ErrForm},
		{head(2, good, 50) + root + "fffffffg", api.ErrForm},
		{head(2, good, 50) + root + "ffffffff", api.ErrMany},
		{head(2, good, 50) + root + "00000020" + "a", api.ErrCut},
		{head(4, good, 50) + digest('d') + "fffffff", api.ErrCut},
		{head(4, good, 50) + digest('d')[1:] + "ffffffff", api.ErrCut}, // a digest takes the next letter, too
		// the reader's ahead of Check's
		{head(1, good, 51), api.ErrCut},
		{head(1, good, 51) + "x", api.ErrForm},
		{head(1, good, 51) + "y" + trash + "00000021", api.ErrMany},
		{head(2, good, 0) + trash + "0000000", api.ErrCut},
		{head(2, good, 50) + "0000000000000032" + "00000021", api.ErrMany},
		{head(4, good, 1) + digest('d') + "00002001", api.ErrMany},
		{head(4, good, 1) + digest('d'), api.ErrCut},
		{head(0, good, 1)[:35], api.ErrCut},
		{head(0, good, 1)[:35] + "z", api.ErrForm},
		// Check's ahead of ErrMore
		{head(1, good, 51) + "y" + root + "00000001a" + "more", api.ErrOp},
		{head(2, good, 50) + trash + "00000001a" + "more", api.ErrOp},
		{head(3, good, 15) + "more", api.ErrOp},
		{head(4, good, last+1) + digest('d') + "00002000" + "more", api.ErrOp},
		{head(5, good, 50) + "more", api.ErrOp},
		// and that where nothing else is wrong
		{head(1, good, 50) + "y" + root + "00000001a" + "more", api.ErrMore},
		{head(3, good, 16) + "more", api.ErrMore},
	} {
		if o, e := op.Decode(c.s); o != (api.Op{}) || e != c.want {
			t.Errorf("Decode(%q): %v, %d; not %d", c.s, o, int(e), int(c.want))
		}
	}
}

// 5.1: bytes with something changed, taken away or put in are an operation of just these bytes, or none.
func TestDecodeChanged(t *testing.T) {
	draw, all, many := drawer(21), goodOps(), 0
	for range 60000 {
		b := []byte(bytesOf(all[draw(len(all))]))
		for range 1 + draw(3) {
			i := draw(len(b))
			switch draw(4) {
			case 0:
				b = append(b[:i], b[i+1:]...)
			case 1:
				b = append(b[:i], append([]byte{byte(draw(256))}, b[i:]...)...)
			default:
				b[i] = "0123456789abcdefyn\x00z"[draw(20)]
			}
		}
		o, e := op.Decode(string(b))
		if e != api.OK {
			if o != (api.Op{}) {
				t.Fatalf("Decode(%q): %v, %d", b, o, int(e))
			}
			continue
		}
		many++
		if op.Check(o) != api.OK || bytesOf(o) != string(b) {
			t.Fatalf("Decode(%q): %v", b, o)
		}
	}
	if many < 1000 {
		t.Errorf("only %d of the changed bytes were an operation", many)
	}
}

// 5.1: one behind the other, with other things between.
func TestPutTake(t *testing.T) {
	draw, all := drawer(4), goodOps()
	for range 300 {
		var put []api.Op
		w, want := wire.NewWriter(), text("ahead")
		w.Text("ahead")
		for range draw(30) {
			o := all[draw(len(all))]
			op.Put(w, o)
			w.Bool(true)
			put, want = append(put, o), want+bytesOf(o)+"y"
		}
		if w.All() != want {
			t.Fatalf("Put: %q, not %q", w.All(), want)
		}
		r := wire.NewReader(want)
		r.Text(5)
		for _, o := range put {
			from := r.At()
			if got := op.Take(r); got != o || r.Err() != api.OK || r.At() != from+len(bytesOf(o)) {
				t.Fatalf("Take at %d: %v, %d, at %d; not %v", from, got, int(r.Err()), r.At(), o)
			}
			r.Bool()
		}
		if e := r.End(); e != api.OK {
			t.Fatalf("the end: %d", int(e))
		}
	}
}

// 5.1: one that may not be spoils the reader for those behind it.
func TestTakeBehindOneThatMayNotBe(t *testing.T) {
	good := bytesOf(move())
	for s, want := range map[string]api.Errno{
		head(5, at(), 20):                 api.ErrOp,
		head(3, at(), 15):                 api.ErrOp,
		head(3, api.Stamp{}, 20):          api.ErrStamp,
		bytesOf(create())[:36] + "z":      api.ErrForm,
		bytesOf(move())[:52] + "ffffffff": api.ErrMany,
	} {
		r := wire.NewReader(good + s + good)
		if got := op.Take(r); got != move() {
			t.Fatalf("Take: %v", got)
		}
		untaken(t, s, r, want)
	}
}

// 5.1: an error that the reader had stays, whatever the bytes are; nothing is taken.
func TestTakeBehindError(t *testing.T) {
	l := []string{"", "z", head(5, at(), 20), head(3, api.Stamp{}, 20), strings.Repeat("z", 100)}
	for _, o := range kinds() {
		l = append(l, bytesOf(o))
	}
	for _, s := range l {
		for _, e := range []api.Errno{api.ErrArg, api.ErrNone, api.ErrMore, api.ErrDead, api.ErrStamp, api.ErrOp} {
			r := wire.NewReader(s)
			r.Fail(e)
			untaken(t, s, r, e)
			if r.At() != 0 || r.Left() != len(s) {
				t.Fatalf("Take behind an error took %d bytes of %q", r.At(), s)
			}
		}
	}
}

// 5.1: a nil writer and a nil reader.
func TestNilReaderWriter(t *testing.T) {
	untaken(t, "a nil reader", nil, api.ErrArg)
	var w *wire.Writer
	for _, o := range append(goodOps(), oneWrong()...) {
		op.Put(w, o)
	}
	if w.Len() != 0 || w.All() != "" {
		t.Errorf("a nil writer has %q", w.All())
	}
}

// taggedO is the digest for the purpose O of one part, by the words of the document alone.
func taggedO(s string) string {
	b := append([]byte{'O'}, 0, 0, 0, 1)
	b = binary.BigEndian.AppendUint32(b, uint32(len(s)))
	sum := sha512.Sum512(append(b, s...))
	return string(sum[:32])
}

// 5.1: the digest of each kind; unlike operations have unlike ones.
func TestHash(t *testing.T) {
	seen := make(map[string]api.Op)
	for _, o := range goodOps() {
		h := op.Hash(o)
		if h != taggedO(bytesOf(o)) || op.Hash(o) != h {
			t.Fatalf("Hash(%v): %x", o, h)
		}
		if other, ok := seen[h]; ok && other != o {
			t.Fatalf("%v and %v have the same digest", o, other)
		}
		seen[h] = o
	}
}

// 5.1: an operation that may not be has a digest, too: that of what it would be in bytes.
func TestHashMayNotBe(t *testing.T) {
	for _, o := range append(oneWrong(), api.Op{}) {
		w := wire.NewWriter()
		op.Put(w, o)
		if h := op.Hash(o); h != taggedO(w.All()) {
			t.Fatalf("Hash(%.200q): %x", fmt.Sprint(o), h)
		}
	}
	for _, kind := range badKinds() {
		o := api.Op{Kind: kind, At: at(), Thing: 20, Parent: 33, Name: "a", Dir: true, Digest: digest('d'), Size: 7}
		if h := op.Hash(o); h != taggedO(head(byte(kind), o.At, o.Thing)) {
			t.Fatalf("Hash of kind %d: %x", kind, h)
		}
	}
}
