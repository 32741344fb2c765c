package wire_test

import (
	"arbour/api"
	"arbour/wire"
	"fmt"
	"math"
	"regexp"
	"strconv"
	"strings"
	"testing"
)

// call is one that takes something of a reader, and what it answers where it takes nothing.
type call struct {
	name string
	do   func(r *wire.Reader) any
	zero any
}

func takeBytes(n int) call {
	return call{fmt.Sprintf("Bytes(%d)", n), func(r *wire.Reader) any { return r.Bytes(n) }, ""}
}

func takeNumber(bytes int) call {
	return call{fmt.Sprintf("Number(%d)", bytes), func(r *wire.Reader) any { return r.Number(bytes) }, uint64(0)}
}

func takeCount(most int) call {
	return call{fmt.Sprintf("Count(%d)", most), func(r *wire.Reader) any { return r.Count(most) }, 0}
}

func takeText(most int) call {
	return call{fmt.Sprintf("Text(%d)", most), func(r *wire.Reader) any { return r.Text(most) }, ""}
}

func takeHash() call {
	return call{"Hash()", func(r *wire.Reader) any { return r.Hash() }, ""}
}

func takeBool() call {
	return call{"Bool()", func(r *wire.Reader) any { return r.Bool() }, false}
}

// calls is each of them, with right arguments and with wrong ones.
func calls() []call {
	all := []call{takeHash(), takeBool()}
	for _, n := range []int{-1, math.MinInt, 0, 1, 2, 3, 8, 32, math.MaxInt} {
		all = append(all, takeBytes(n), takeNumber(n), takeCount(n), takeText(n))
	}
	return all
}

// short is an answer as it may stand in a line.
func short(answer any) string { return fmt.Sprintf("%.80s", fmt.Sprintf("%#v", answer)) }

// stands wants an error and a place of a reader.
func stands(t *testing.T, what string, r *wire.Reader, e api.Errno, at, left int) {
	t.Helper()
	if r.Err() != e || r.At() != at || r.Left() != left {
		t.Fatalf("%s: error %d, at %d, left %d; not %d, %d, %d", what, int(r.Err()), r.At(), r.Left(), int(e), at, left)
	}
}

// keeps wants that a reader with an error keeps it, and takes nothing any more.
func keeps(t *testing.T, what string, r *wire.Reader, e api.Errno, at, left int) {
	t.Helper()
	for _, c := range calls() {
		if got := c.do(r); got != c.zero {
			t.Fatalf("%s, then %s: %s", what, c.name, short(got))
		}
		stands(t, what+", then "+c.name, r, e, at, left)
	}
	for _, other := range []api.Errno{api.OK, api.ErrNone, api.ErrMore, api.ErrArg} {
		r.Fail(other)
		stands(t, what+", then Fail", r, e, at, left)
	}
	if got := r.End(); got != e {
		t.Fatalf("%s, then End(): %d, not %d", what, int(got), int(e))
	}
	stands(t, what+", then End()", r, e, at, left)
}

// 3.2: each call with enough bytes, and with just enough.
func TestReaderTakes(t *testing.T) {
	for _, c := range []struct {
		s    string
		call call
		want any
	}{
		{"", takeBytes(0), ""}, {"a", takeBytes(1), "a"}, {"\x00\xffz", takeBytes(3), "\x00\xffz"}, {text(70000), takeBytes(70000), text(70000)},
		{"", takeNumber(0), uint64(0)}, {"00", takeNumber(1), uint64(0)}, {"7f", takeNumber(1), uint64(127)}, {"ff", takeNumber(1), uint64(255)},
		{"0102", takeNumber(2), uint64(258)}, {"a0b1c2", takeNumber(3), uint64(0xa0b1c2)}, {"deadbeef", takeNumber(4), uint64(0xdeadbeef)},
		{"0123456789", takeNumber(5), uint64(0x0123456789)}, {"abcdefabcdef", takeNumber(6), uint64(0xabcdefabcdef)}, {"00000000000001", takeNumber(7), uint64(1)},
		{"fedcba9876543210", takeNumber(8), uint64(0xfedcba9876543210)}, {"ffffffffffffffff", takeNumber(8), uint64(math.MaxUint64)},
		{"00000000", takeCount(0), 0}, {"00000000", takeCount(math.MaxInt), 0}, {"00000001", takeCount(1), 1}, {"0000000a", takeCount(11), 10},
		{"000000ff", takeCount(255), 255}, {"7fffffff", takeCount(math.MaxInt32), math.MaxInt32}, {"ffffffff", takeCount(math.MaxUint32), math.MaxUint32}, {"80000000", takeCount(math.MaxInt), 1 << 31},
		{"00000000", takeText(0), ""}, {"00000000", takeText(5), ""}, {"00000001y", takeText(1), "y"}, {"00000003abc", takeText(3), "abc"}, {"00000003a\x00\xff", takeText(4), "a\x00\xff"},
		{fmt.Sprintf("%08x", 70000) + text(70000), takeText(math.MaxInt), text(70000)},
		{text(32), takeHash(), text(32)}, {strings.Repeat("\x00", 32), takeHash(), strings.Repeat("\x00", 32)},
		{"y", takeBool(), true}, {"n", takeBool(), false},
	} {
		for _, ahead := range []string{"", "ab"} {
			for _, behind := range []string{"", "0", "y", text(40)} {
				r := wire.NewReader(ahead + c.s + behind)
				stands(t, "NewReader", r, api.OK, 0, len(ahead+c.s+behind))
				if got := r.Bytes(len(ahead)); got != ahead {
					t.Fatalf("Bytes(%d): %q, not %q", len(ahead), got, ahead)
				}
				if got := c.call.do(r); got != c.want {
					t.Fatalf("%s of %.60q: %s, not %s", c.call.name, c.s+behind, short(got), short(c.want))
				}
				stands(t, c.call.name, r, api.OK, len(ahead+c.s), len(behind))
			}
		}
	}
}

// 3.2: with an error nothing is taken, the first error stays, and each later call answers zero values.
func TestReaderRefuses(t *testing.T) {
	for _, c := range []struct {
		s    string
		call call
		want api.Errno
	}{
		{"", takeBytes(-1), api.ErrArg}, {"abc", takeBytes(-1), api.ErrArg}, {"abc", takeBytes(math.MinInt), api.ErrArg},
		{"", takeBytes(1), api.ErrCut}, {"ab", takeBytes(3), api.ErrCut}, {"abc", takeBytes(math.MaxInt), api.ErrCut},

		{"", takeNumber(-1), api.ErrArg}, {"zz", takeNumber(-1), api.ErrArg}, {"0000000000000000", takeNumber(math.MinInt), api.ErrArg},
		{"", takeNumber(9), api.ErrArg}, {"000000000000000000", takeNumber(9), api.ErrArg}, {"zz", takeNumber(math.MaxInt), api.ErrArg}, {"0000", takeNumber(math.MinInt + 1), api.ErrArg},
		{"", takeNumber(1), api.ErrCut}, {"0", takeNumber(1), api.ErrCut}, {"z", takeNumber(1), api.ErrCut}, {"010", takeNumber(2), api.ErrCut}, {"zzz", takeNumber(2), api.ErrCut},
		{"0000000", takeNumber(4), api.ErrCut}, {"000000000000000", takeNumber(8), api.ErrCut}, {"ZZZZZZZZZZZZZZZ", takeNumber(8), api.ErrCut},
		{"0A", takeNumber(1), api.ErrForm}, {"F0", takeNumber(1), api.ErrForm}, {"0g", takeNumber(1), api.ErrForm}, {"/0", takeNumber(1), api.ErrForm}, {":0", takeNumber(1), api.ErrForm},
		{"`0", takeNumber(1), api.ErrForm}, {"0x", takeNumber(1), api.ErrForm}, {"-1", takeNumber(1), api.ErrForm}, {"+1", takeNumber(1), api.ErrForm}, {" 1", takeNumber(1), api.ErrForm}, {"1_00", takeNumber(2), api.ErrForm},
		{"\x000", takeNumber(1), api.ErrForm}, {"\xff\xff", takeNumber(1), api.ErrForm}, {"000000000000000G", takeNumber(8), api.ErrForm}, {"G000000000000000", takeNumber(8), api.ErrForm},

		{"", takeCount(5), api.ErrCut}, {"0000000", takeCount(5), api.ErrCut}, {"0000000", takeCount(-1), api.ErrCut}, {"zzzzzzz", takeCount(0), api.ErrCut},
		{"0000000A", takeCount(50), api.ErrForm}, {"0000000A", takeCount(-1), api.ErrForm}, {"z0000001", takeCount(0), api.ErrForm},
		{"00000001", takeCount(0), api.ErrMany}, {"00000006", takeCount(5), api.ErrMany}, {"ffffffff", takeCount(5), api.ErrMany}, {"80000000", takeCount(math.MaxInt32), api.ErrMany}, {"ffffffff", takeCount(math.MaxUint32 - 1), api.ErrMany},
		{"00000000", takeCount(-1), api.ErrMany}, {"00000001", takeCount(-1), api.ErrMany}, {"00000000", takeCount(math.MinInt), api.ErrMany}, {"ffffffff", takeCount(-1), api.ErrMany},

		{"", takeText(5), api.ErrCut}, {"0000000", takeText(-1), api.ErrCut}, {"0000000A0123456789", takeText(50), api.ErrForm}, {"0000000A", takeText(-1), api.ErrForm},
		{"00000003abc", takeText(2), api.ErrMany}, {"00000003", takeText(2), api.ErrMany}, {"00000000", takeText(-1), api.ErrMany}, {"ffffffffabc", takeText(math.MaxInt32), api.ErrMany},
		{"00000003", takeText(3), api.ErrCut}, {"00000003ab", takeText(3), api.ErrCut}, {"00000001", takeText(math.MaxInt), api.ErrCut}, {"7fffffffabc", takeText(math.MaxInt32), api.ErrCut}, {"ffffffffabc", takeText(math.MaxInt), api.ErrCut},

		{"", takeHash(), api.ErrCut}, {"a", takeHash(), api.ErrCut}, {text(31), takeHash(), api.ErrCut},

		{"", takeBool(), api.ErrCut}, {"Y", takeBool(), api.ErrForm}, {"N", takeBool(), api.ErrForm}, {"0", takeBool(), api.ErrForm}, {"1", takeBool(), api.ErrForm}, {"x", takeBool(), api.ErrForm}, {"z", takeBool(), api.ErrForm}, {"\x00", takeBool(), api.ErrForm}, {"my", takeBool(), api.ErrForm},
	} {
		for _, ahead := range []string{"", "y", "nyn"} {
			r := wire.NewReader(ahead + c.s)
			r.Bytes(len(ahead))
			if got := c.call.do(r); got != c.call.zero {
				t.Fatalf("%s of %.60q: %s", c.call.name, c.s, short(got))
			}
			what := fmt.Sprintf("%s of %.60q", c.call.name, c.s)
			stands(t, what, r, c.want, len(ahead), len(c.s))
			keeps(t, what, r, c.want, len(ahead), len(c.s))
		}
	}
}

// 3.2: each letter, at each place of a number, and as yes or no.
func TestReaderLetters(t *testing.T) {
	for c := range 256 {
		letter := string([]byte{byte(c)})
		d := strings.Index("0123456789abcdef", letter)
		for i := range 16 {
			r := wire.NewReader("0000000000000000"[:i] + letter + "0000000000000000"[i+1:])
			n := r.Number(8)
			if d >= 0 && (n != uint64(d)<<(60-4*i) || r.End() != api.OK) {
				t.Errorf("%q at %d: %x, %d", letter, i, n, int(r.Err()))
			}
			if d < 0 && (n != 0 || r.Err() != api.ErrForm || r.At() != 0) {
				t.Errorf("%q at %d: %x, %d", letter, i, n, int(r.Err()))
			}
		}
		r := wire.NewReader(letter)
		b := r.Bool()
		if is := letter == "y" || letter == "n"; b != (letter == "y") || (r.Err() == api.OK) != is || (r.At() == 1) != is {
			t.Errorf("Bool() of %q: %t, %d, at %d", letter, b, int(r.Err()), r.At())
		}
	}
}

// 3.2: Fail lays an error where there is none, at whatever place.
func TestReaderFail(t *testing.T) {
	for _, e := range []api.Errno{api.ErrArg, api.ErrNone, api.ErrForm, api.ErrOp, 12345, -1} {
		for _, at := range []int{0, 1, 3} {
			r := wire.NewReader("y00")
			r.Bytes(at)
			r.Fail(api.OK)
			stands(t, "Fail(OK)", r, api.OK, at, 3-at)
			r.Fail(e)
			stands(t, "Fail", r, e, at, 3-at)
			keeps(t, "Fail", r, e, at, 3-at)
		}
	}
	r := wire.NewReader("y")
	r.Fail(api.OK)
	if !r.Bool() || r.End() != api.OK {
		t.Errorf("Fail(OK) is an error: %d", int(r.Err()))
	}
}

// 3.2: the end, with bytes left and without.
func TestReaderEnd(t *testing.T) {
	r := wire.NewReader("")
	if e := r.End(); e != api.OK {
		t.Errorf("End() of nothing: %d", int(e))
	}
	r = wire.NewReader("ny")
	r.Bool()
	if e := r.End(); e != api.ErrMore {
		t.Errorf("End() ahead of a byte: %d", int(e))
	}
	stands(t, "End() ahead of a byte", r, api.ErrMore, 1, 1)
	keeps(t, "End() ahead of a byte", r, api.ErrMore, 1, 1)

	r = wire.NewReader("ny")
	r.Bool()
	r.Bool()
	for range 2 {
		if e := r.End(); e != api.OK {
			t.Errorf("End() behind all bytes: %d", int(e))
		}
	}
	stands(t, "End() behind all bytes", r, api.OK, 2, 0)
	// It was no error: the reader goes on from there, and finds that the bytes end.
	r.Bool()
	stands(t, "Bool() behind all bytes", r, api.ErrCut, 2, 0)
}

// 3.2: a nil reader.
func TestReaderNil(t *testing.T) {
	var r *wire.Reader
	stands(t, "nil", r, api.ErrArg, 0, 0)
	keeps(t, "nil", r, api.ErrArg, 0, 0)
	if e := r.End(); e != api.ErrArg {
		t.Errorf("End(): %d", int(e))
	}
}

// model is a reader by the words of the document, that finds digits by a pattern.
type model struct {
	s  string
	at int
	e  api.Errno
}

var number = regexp.MustCompile(`^[0-9a-f]*$`)

func (m *model) number(bytes int) (uint64, int, api.Errno) {
	left := m.s[m.at:]
	if bytes < 0 || bytes > 8 {
		return 0, 0, api.ErrArg
	}
	if len(left) < 2*bytes {
		return 0, 0, api.ErrCut
	}
	if !number.MatchString(left[:2*bytes]) {
		return 0, 0, api.ErrForm
	}
	n, _ := strconv.ParseUint("0"+left[:2*bytes], 16, 64)
	return n, 2 * bytes, api.OK
}

func (m *model) count(most int) (int, int, api.Errno) {
	n, took, e := m.number(4)
	if e == api.OK && (most < 0 || int64(n) > int64(most)) {
		return 0, 0, api.ErrMany
	}
	return int(n), took, e
}

func (m *model) bytes(n int) (string, int, api.Errno) {
	switch {
	case n < 0:
		return "", 0, api.ErrArg
	case n > len(m.s)-m.at:
		return "", 0, api.ErrCut
	}
	return m.s[m.at : m.at+n], n, api.OK
}

func (m *model) text(most int) (string, int, api.Errno) {
	n, took, e := m.count(most)
	if e != api.OK {
		return "", 0, e
	}
	if len(m.s)-m.at-took < n {
		return "", 0, api.ErrCut
	}
	return m.s[m.at+took : m.at+took+n], took + n, api.OK
}

func (m *model) bool() (bool, int, api.Errno) {
	s, took, e := m.bytes(1)
	if e == api.OK && !strings.Contains("yn", s) {
		return false, 0, api.ErrForm
	}
	return s == "y", took, e
}

// do is the answer to a call of a kind, with a number.
func (m *model) do(kind, n int) any {
	var got any
	var took int
	var e api.Errno
	switch kind {
	case 0:
		got, took, e = m.bytes(n)
	case 1:
		got, took, e = m.number(n)
	case 2:
		got, took, e = m.count(n)
	case 3:
		got, took, e = m.text(n)
	case 4:
		got, took, e = m.bytes(32)
	case 5:
		got, took, e = m.bool()
	}
	if m.e != api.OK {
		return []any{"", uint64(0), 0, "", "", false}[kind]
	}
	m.at, m.e = m.at+took, e
	return got
}

// 3.2: long rows of calls, at bytes of few letters, as a model has them.
func TestReaderModel(t *testing.T) {
	letters := "000000000001248fayn A\x00"
	draw := drawer(1)
	errors := make(map[api.Errno]int)
	for range 20000 {
		b := make([]byte, draw(80))
		for i := range b {
			b[i] = letters[draw(draw(len(letters))+1)]
		}
		m, r := &model{s: string(b)}, wire.NewReader(string(b))
		for range 1 + draw(8) {
			kind, n := draw(6), draw(12)-1
			c := []call{takeBytes(n), takeNumber(n), takeCount(n), takeText(n), takeHash(), takeBool()}[kind]
			if got, want := c.do(r), m.do(kind, n); got != want {
				t.Fatalf("%s of %q at %d: %s, not %s", c.name, m.s, m.at, short(got), short(want))
			}
			stands(t, fmt.Sprintf("%s of %q", c.name, m.s), r, m.e, m.at, len(m.s)-m.at)
		}
		errors[m.e]++
	}
	for _, e := range []api.Errno{api.OK, api.ErrArg, api.ErrMany, api.ErrCut, api.ErrForm} {
		if errors[e] == 0 {
			t.Errorf("no row came to the error %d", int(e))
		}
	}
}
