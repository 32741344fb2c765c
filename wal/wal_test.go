package wal_test

import (
	"arbour/api"
	"arbour/disk"
	"arbour/wal"
	"arbour/wire"
	"math"
	"slices"
	"strings"
	"testing"
)

// The heads and some records as they stand in a file, letter by letter.
const (
	headB = "00000001994c4d30B"
	headG = "000000019e4c550fG"
	recNo = "00000001a94c6660r"
	recA  = "0000000243fd40e2ra"
	recB  = "0000000242fd3f4frb"
	recC  = "0000000241fd3dbcrc"
)

// rec is a record as it stands in a file.
func rec(s string) string { return wire.Frame("r" + s) }

// recs is records, one behind the other.
func recs(records ...string) string {
	s := ""
	for _, r := range records {
		s += rec(r)
	}
	return s
}

// told wants the error that a call was answered with.
func told(t *testing.T, what string, got, want api.Errno) {
	t.Helper()
	if got != want {
		t.Fatalf("%s: %d, not %d", what, int(got), int(want))
	}
}

// files is all files of a disk: names and bytes by turns.
func files(t *testing.T, d *disk.Disk) []string {
	t.Helper()
	var all []string
	for _, n := range d.Names() {
		s, e := d.Read(n)
		told(t, "Read("+n+")", e, api.OK)
		all = append(all, n, s)
	}
	return all
}

// has wants that a disk has just these files: names and bytes by turns, names rising.
func has(t *testing.T, d *disk.Disk, want ...string) {
	t.Helper()
	if got := files(t, d); !slices.Equal(got, want) {
		t.Fatalf("files: %q, not %q", got, want)
	}
}

// with is a disk that has files (names and bytes by turns), all of them settled.
func with(t *testing.T, files ...string) *disk.Disk {
	t.Helper()
	d := disk.New()
	for i := 0; i < len(files); i += 2 {
		told(t, "Write("+files[i]+")", d.Write(files[i], files[i+1]), api.OK)
	}
	told(t, "Sync", d.Sync(), api.OK)
	return d
}

// opened is the log of a disk: it wants that so many bytes were cut off.
func opened(t *testing.T, d *disk.Disk, most, want int) *wal.Log {
	t.Helper()
	l, cut, e := wal.Open(d, most)
	told(t, "Open", e, api.OK)
	if l == nil || cut != want {
		t.Fatalf("Open: cut %d, not %d", cut, want)
	}
	return l
}

// refused wants that Open is answered with an error, and with nothing else.
func refused(t *testing.T, d *disk.Disk, most int, want api.Errno) {
	t.Helper()
	l, cut, e := wal.Open(d, most)
	told(t, "Open", e, want)
	if l != nil || cut != 0 {
		t.Fatalf("Open with an error: %v, %d", l, cut)
	}
}

// holds wants a log's segments and its records. What was answered is the caller's: what he does to it changes nothing.
func holds(t *testing.T, l *wal.Log, segments []int, records ...string) {
	t.Helper()
	for range 2 {
		all, numbers := l.All(), l.Segments()
		if !slices.Equal(all, records) || l.Len() != len(records) || !slices.Equal(numbers, segments) {
			t.Fatalf("%q (%d) in %v, not %q in %v", all, l.Len(), numbers, records, segments)
		}
		for i := range all {
			all[i] = "other"
		}
		_ = append(all, "other")
		for i := range numbers {
			numbers[i] = -1
		}
		_ = append(numbers, -1)
	}
}

// sure wants that a disk has no loose bytes, and that another loss of power takes nothing.
func sure(t *testing.T, d *disk.Disk) {
	t.Helper()
	if d.Loose() != 0 {
		t.Fatalf("Loose(): %d", d.Loose())
	}
	c := d.Clone()
	c.Crash(0, 0)
	c.Up()
	has(t, c, files(t, d)...)
}

// 7.2: heads and records are frames; the first segment begins anew, those behind it go on.
func TestAddBytes(t *testing.T) {
	d := disk.New()
	l := opened(t, d, 40, 0)
	has(t, d)
	told(t, "Add", l.Add("a"), api.OK)
	has(t, d, "log.1", headB+recA)
	told(t, "Add", l.Add("b"), api.OK)
	has(t, d, "log.1", headB+recA+recB)
	told(t, "Add", l.Add("c"), api.OK)
	has(t, d, "log.1", headB+recA+recB, "log.2", headG+recC)
	told(t, "Add", l.Add(""), api.OK)
	has(t, d, "log.1", headB+recA+recB, "log.2", headG+recC+recNo)
	holds(t, l, []int{1, 2}, "a", "b", "c", "")
	sure(t, d)
}

// 7.2: no record, one and several, into no segment: log.1, with a head B, in one change, and sure.
func TestAddFirst(t *testing.T) {
	for _, records := range [][]string{nil, {}, {""}, {"a"}, {"", ""}, {"a", "", "b"}, {"B", "G", "r", "log.1"}, {"\x00\xff\n", strings.Repeat("x", 5000)}} {
		d := disk.New()
		l := opened(t, d, 1, 0)
		told(t, "Add", l.Add(records...), api.OK)
		has(t, d, "log.1", headB+recs(records...))
		holds(t, l, []int{1}, records...)
		if d.Changes() != 1 {
			t.Errorf("%q: %d changes", records, d.Changes())
		}
		sure(t, d)
		holds(t, opened(t, d, 1, 0), []int{1}, records...)
	}
}

// 7.2: the same into the last of some segments, in one change, whichever segment it comes into.
func TestAddBehind(t *testing.T) {
	for _, records := range [][]string{nil, {""}, {"a"}, {"a", "", "b"}, {"a", "a", "a"}} {
		d := with(t, "log.1", headB+recs("x"), "log.2", headG+recs("y"))
		short, long := d.Clone(), d.Clone()
		l := opened(t, short, 1000, 0)
		before := short.Changes()
		told(t, "Add", l.Add(records...), api.OK)
		has(t, short, "log.1", headB+recs("x"), "log.2", headG+recs("y")+recs(records...))
		holds(t, l, []int{1, 2}, append([]string{"x", "y"}, records...)...)
		if short.Changes() != before+1 {
			t.Errorf("%q: %d changes", records, short.Changes()-before)
		}
		sure(t, short)

		l = opened(t, long, 1, 0)
		told(t, "Add", l.Add(records...), api.OK)
		has(t, long, "log.1", headB+recs("x"), "log.2", headG+recs("y"), "log.3", headG+recs(records...))
		holds(t, l, []int{1, 2, 3}, append([]string{"x", "y"}, records...)...)
		if long.Changes() != before+1 {
			t.Errorf("%q: %d changes", records, long.Changes()-before)
		}
		sure(t, long)
	}
}

// 7.2: a last segment with fewer bytes than most, just as many, and more; of its own making, and opened anew.
func TestAddMost(t *testing.T) {
	has35 := headB + recA
	for _, c := range []struct{ most, segments int }{{1, 2}, {2, 2}, {34, 2}, {35, 2}, {36, 1}, {37, 1}, {1 << 40, 1}, {math.MaxInt, 1}} {
		d := disk.New()
		l := opened(t, d, c.most, 0)
		told(t, "Add", l.Add("a"), api.OK)
		again := with(t, "log.1", has35)
		for _, x := range []struct {
			d *disk.Disk
			l *wal.Log
		}{{d, l}, {again, opened(t, again, c.most, 0)}} {
			told(t, "Add", x.l.Add("b", "c"), api.OK)
			if c.segments == 1 {
				has(t, x.d, "log.1", has35+recB+recC)
			} else {
				has(t, x.d, "log.1", has35, "log.2", headG+recB+recC)
			}
			holds(t, x.l, []int{1, 2}[:c.segments], "a", "b", "c")
		}
	}
}

// 7.2: a segment that is new with nothing in it but its head is filled on, or followed by another one, by its bytes.
func TestAddHeadAlone(t *testing.T) {
	d := disk.New()
	l := opened(t, d, len(headB)+1, 0)
	told(t, "Add", l.Add(), api.OK)
	told(t, "Add", l.Add(), api.OK)
	has(t, d, "log.1", headB)
	told(t, "Add", l.Add("a"), api.OK)
	told(t, "Add", l.Add(), api.OK)
	has(t, d, "log.1", headB+recA, "log.2", headG)
	holds(t, l, []int{1, 2}, "a")
	l = opened(t, d, len(headB), 0)
	told(t, "Add", l.Add(), api.OK)
	has(t, d, "log.1", headB+recA, "log.2", headG, "log.3", headG)
	holds(t, l, []int{1, 2, 3}, "a")
	holds(t, opened(t, d, 1, 0), []int{1, 2, 3}, "a")
}

// 7.2: many segments: their numbers have several digits, and follow one another as numbers do.
func TestAddMany(t *testing.T) {
	d := disk.New()
	l := opened(t, d, 1, 0)
	var records []string
	var segments []int
	for i := range 120 {
		records = append(records, strings.Repeat("x", i%7))
		segments = append(segments, i+1)
		told(t, "Add", l.Add(records[i]), api.OK)
	}
	holds(t, l, segments, records...)
	l = opened(t, d, 1, 0)
	holds(t, l, segments, records...)
	told(t, "Add", l.Add("end"), api.OK)
	holds(t, l, append(segments, 121), append(records, "end")...)
}

// 7.2: a full disk: its error, and all is as it was, here and there; with room it goes on.
func TestAddFull(t *testing.T) {
	for _, most := range []int{1, 1000} {
		for _, first := range [][]string{nil, {"a"}} {
			d := disk.New()
			l := opened(t, d, most, 0)
			need := len(headB + recs("b", "c"))
			var segments []int
			if first != nil {
				told(t, "Add", l.Add(first...), api.OK)
				segments = []int{1}
				if most > 1 {
					need = len(recs("b", "c"))
				}
			}
			before := files(t, d)
			changes := d.Changes()
			for _, room := range []int{0, d.Used(), d.Used() + 1, d.Used() + need - 1} {
				d.Room(room)
				told(t, "Add", l.Add("b", "c"), api.ErrFull)
				holds(t, l, segments, first...)
				has(t, d, before...)
			}
			if d.Changes() != changes {
				t.Errorf("%d changes", d.Changes()-changes)
			}
			d.Room(d.Used() + need)
			told(t, "Add", l.Add("b", "c"), api.OK)
			if got := l.All(); !slices.Equal(got, append(slices.Clone(first), "b", "c")) {
				t.Errorf("%q", got)
			}
			holds(t, opened(t, d, most, 0), l.Segments(), l.All()...)
		}
	}
}

// 7.2: a dead disk: its error, and all is as it was, here and there; with power it goes on.
func TestAddDead(t *testing.T) {
	for _, records := range [][]string{nil, {""}, {"b", "c"}} {
		d := disk.New()
		l := opened(t, d, 40, 0)
		d.Crash(0, 0)
		told(t, "Add", l.Add(records...), api.ErrDead)
		holds(t, l, nil)
		d.Up()
		has(t, d)
		told(t, "Add", l.Add("a"), api.OK)
		d.Crash(0, 0)
		told(t, "Add", l.Add(records...), api.ErrDead)
		holds(t, l, []int{1}, "a")
		d.Up()
		has(t, d, "log.1", headB+recA)
		told(t, "Add", l.Add(records...), api.OK)
		holds(t, l, []int{1}, append([]string{"a"}, records...)...)
		has(t, d, "log.1", headB+recA+recs(records...))
	}
}

// 7.2: no record, one and several, without segments and with some: a head B and the records, behind the last number, and nothing else.
func TestReset(t *testing.T) {
	for _, had := range []struct {
		files []string
		to    string
		n     int
	}{
		{nil, "log.1", 1},
		{[]string{"log.1", headB}, "log.2", 2},
		{[]string{"log.1", headB + recs("x", "y")}, "log.2", 2},
		{[]string{"log.1", headB + recs("x"), "log.2", headG, "log.3", headG + recs("y", "")}, "log.4", 4},
		{[]string{"log.9", headB + recs("x")}, "log.10", 10},
		{[]string{"log.98", headB + recs("x"), "log.99", headG + recs("y")}, "log.100", 100},
	} {
		for _, records := range [][]string{nil, {}, {""}, {"a"}, {"x", "y"}, {"a", "", "b"}} {
			d := with(t, had.files...)
			l := opened(t, d, 1, 0)
			changes := d.Changes()
			told(t, "Reset", l.Reset(records), api.OK)
			has(t, d, had.to, headB+recs(records...))
			holds(t, l, []int{had.n}, records...)
			// The segment is written, and moved; each of the others goes.
			if want := 2 + len(had.files)/2; d.Changes()-changes != want {
				t.Errorf("%d changes, not %d", d.Changes()-changes, want)
			}
			sure(t, d)
			holds(t, opened(t, d, 1, 0), []int{had.n}, records...)
		}
	}
}

// 7.2: Add behind a Reset: into its segment, or, if that has most bytes, into another one that goes on. Reset behind a Reset.
func TestAddBehindReset(t *testing.T) {
	for most, want := range map[int][]string{
		35: {"log.3", headB + recA, "log.4", headG + recB},
		36: {"log.3", headB + recA + recB},
	} {
		d := with(t, "log.1", headB+recs("x"), "log.2", headG+recs("y"))
		l := opened(t, d, most, 0)
		told(t, "Reset", l.Reset([]string{"a"}), api.OK)
		told(t, "Add", l.Add("b"), api.OK)
		has(t, d, want...)
		holds(t, l, []int{3, 4}[:len(want)/2], "a", "b")
		holds(t, opened(t, d, most, 0), []int{3, 4}[:len(want)/2], "a", "b")
	}
	d := disk.New()
	l := opened(t, d, 1, 0)
	for i := range 12 {
		told(t, "Reset", l.Reset([]string{"a"}), api.OK)
		holds(t, l, []int{i + 1}, "a")
	}
	has(t, d, "log.12", headB+recA)
}

// 7.2: the chapter's example.
func TestExample(t *testing.T) {
	d := disk.New()
	l := opened(t, d, 1000, 0)
	told(t, "Add", l.Add("a"), api.OK)
	told(t, "Add", l.Add("b"), api.OK)
	told(t, "Reset", l.Reset([]string{"c"}), api.OK)
	d.Crash(0, 0)
	d.Up()
	holds(t, opened(t, d, 1000, 0), []int{2}, "c")
}

// 7.2: files of other names are let be by Add and Reset, too.
func TestOthersStay(t *testing.T) {
	d := with(t, "a", "1", "log.0", headB, "log.x", headB+recs("x"))
	l := opened(t, d, 1, 0)
	told(t, "Add", l.Add("a"), api.OK)
	told(t, "Add", l.Add("b"), api.OK)
	told(t, "Reset", l.Reset([]string{"c"}), api.OK)
	has(t, d, "a", "1", "log.0", headB, "log.3", headB+recC, "log.x", headB+recs("x"))
}

// 7.2: Reset on a full disk: what was there stays until all that comes is there, so both need room.
func TestResetFull(t *testing.T) {
	d := with(t, "log.1", headB+recs("x"), "log.2", headG+recs("y"))
	l := opened(t, d, 1, 0)
	before := files(t, d)
	need := len(headB + recs("a"))
	for _, room := range []int{0, d.Used(), d.Used() + 1, d.Used() + need - 1} {
		d.Room(room)
		told(t, "Reset", l.Reset([]string{"a"}), api.ErrFull)
		holds(t, l, []int{1, 2}, "x", "y")
		has(t, d, before...)
	}
	d.Room(d.Used() + need)
	told(t, "Reset", l.Reset([]string{"a"}), api.OK)
	holds(t, l, []int{3}, "a")
	has(t, d, "log.3", headB+recA)

	d = disk.New()
	d.Room(len(headB) - 1)
	l = opened(t, d, 1, 0)
	told(t, "Reset", l.Reset(nil), api.ErrFull)
	holds(t, l, nil)
	has(t, d)
}

// 7.2: Reset on a dead disk.
func TestResetDead(t *testing.T) {
	d := with(t, "log.1", headB+recs("x"), "log.2", headG+recs("y"))
	before := files(t, d)
	l := opened(t, d, 1, 0)
	for _, records := range [][]string{nil, {"a"}} {
		d.Crash(0, 0)
		told(t, "Reset", l.Reset(records), api.ErrDead)
		holds(t, l, []int{1, 2}, "x", "y")
		d.Up()
		has(t, d, before...)
	}
	told(t, "Reset", l.Reset([]string{"a"}), api.OK)
	has(t, d, "log.3", headB+recA)
}

// 7.2: what is handed in is not changed, and may be changed later.
func TestHandedIn(t *testing.T) {
	l := opened(t, disk.New(), 40, 0)
	in := []string{"a", "b", "c"}[:2]
	told(t, "Add", l.Add(in...), api.OK)
	in[0] = "other"
	holds(t, l, []int{1}, "a", "b")
	in[0] = "a"
	told(t, "Reset", l.Reset(in), api.OK)
	in[0] = "other"
	holds(t, l, []int{2}, "a", "b")
	told(t, "Add", l.Add("d"), api.OK)
	if in[1] != "b" || in[:3][2] != "c" {
		t.Errorf("the caller's list: %q", in[:3])
	}
}

// 7.2: a nil log, each call; and one that Open did not make has no disk: its power is off.
func TestNil(t *testing.T) {
	var l *wal.Log
	told(t, "Add", l.Add(), api.ErrArg)
	told(t, "Add", l.Add("a", "b"), api.ErrArg)
	told(t, "Reset", l.Reset(nil), api.ErrArg)
	told(t, "Reset", l.Reset([]string{"a"}), api.ErrArg)
	holds(t, l, nil)

	l = &wal.Log{}
	told(t, "Add", l.Add("a"), api.ErrDead)
	told(t, "Reset", l.Reset([]string{"a"}), api.ErrDead)
	holds(t, l, nil)
}

// 7.2: behind the greatest number there is none: what would need one is refused, and all is as it was.
func TestGreatestNumber(t *testing.T) {
	const last, other = "log.9223372036854775807", "log.-9223372036854775808"
	d := with(t, other, headG+recs("y"), last, headB+recs("x"))
	l := opened(t, d, 53, 0)
	holds(t, l, []int{math.MaxInt}, "x")
	told(t, "Add", l.Add("a"), api.OK)
	told(t, "Add", l.Add("b"), api.ErrFull)
	told(t, "Reset", l.Reset([]string{"b"}), api.ErrFull)
	holds(t, l, []int{math.MaxInt}, "x", "a")
	has(t, d, other, headG+recs("y"), last, headB+recs("x", "a"))
	d.Crash(0, 0)
	told(t, "Add", l.Add("b"), api.ErrDead)
	told(t, "Reset", l.Reset([]string{"b"}), api.ErrDead)
	d.Up()

	d = with(t, "log.9223372036854775806", headB+recs("x"), last, headG+recs("y"))
	holds(t, opened(t, d, 1, 0), []int{math.MaxInt - 1, math.MaxInt}, "x", "y")
}

// 7.2: many records are no matter of much time.
func TestMuch(t *testing.T) {
	const many = 20000
	d := disk.New()
	l := opened(t, d, 4096, 0)
	for range many {
		told(t, "Add", l.Add("0123456789"), api.OK)
	}
	k := opened(t, d, 4096, 0)
	if l.Len() != many || k.Len() != many || !slices.Equal(l.Segments(), k.Segments()) || len(k.Segments()) < 100 {
		t.Errorf("%d, %d records in %d, %d segments", l.Len(), k.Len(), len(l.Segments()), len(k.Segments()))
	}
}
