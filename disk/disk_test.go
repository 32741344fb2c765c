package disk_test

import (
	"arbour/api"
	"arbour/disk"
	"math"
	"slices"
	"strings"
	"testing"
)

// told wants the error that a call was answered with.
func told(t *testing.T, what string, got, want api.Errno) {
	t.Helper()
	if got != want {
		t.Fatalf("%s: %d, not %d", what, int(got), int(want))
	}
}

// has wants that a disk has just these files: names and bytes by turns, names rising. To ask it changes nothing.
func has(t *testing.T, d *disk.Disk, want ...string) {
	t.Helper()
	for range 2 {
		var got []string
		used := 0
		for _, n := range d.Names() {
			s, e := d.Read(n)
			told(t, "Read("+n+")", e, api.OK)
			got = append(got, n, s)
			used += len(s)
		}
		if !slices.Equal(got, want) {
			t.Fatalf("files: %q, not %q", got, want)
		}
		if d.Used() != used {
			t.Fatalf("Used(): %d, not %d", d.Used(), used)
		}
	}
}

// counts wants how many changes there were, and how many of them are loose.
func counts(t *testing.T, d *disk.Disk, changes, loose int) {
	t.Helper()
	for range 2 {
		if d.Changes() != changes || d.Loose() != loose {
			t.Fatalf("Changes(), Loose(): %d, %d; not %d, %d", d.Changes(), d.Loose(), changes, loose)
		}
	}
}

// with is a disk that has files (names and bytes by turns), all of them settled.
func with(t *testing.T, files ...string) *disk.Disk {
	t.Helper()
	d := disk.New()
	for i := 0; i < len(files); i += 2 {
		told(t, "Write", d.Write(files[i], files[i+1]), api.OK)
	}
	told(t, "Sync", d.Sync(), api.OK)
	return d
}

// badNames is texts that are no names.
func badNames() []string {
	return []string{"", " ", "a b", "a\x7f", "\x00", "a\n", "\xc3\xa4", "\xff", strings.Repeat("a", 241), strings.Repeat("a", 1000)}
}

// 6.1: a new disk has power, no files, no changes, and any room.
func TestNew(t *testing.T) {
	d, other := disk.New(), disk.New()
	if d.Dead() || d.Up() {
		t.Error("a new disk is dead")
	}
	has(t, d)
	counts(t, d, 0, 0)
	told(t, "Append", d.Append("a", strings.Repeat("x", 1<<20)), api.OK)
	has(t, other)
	counts(t, other, 0, 0)
}

// 6.1: a disk that New did not make is as one that it made.
func TestZeroDisk(t *testing.T) {
	var d disk.Disk
	has(t, &d)
	told(t, "Remove", d.Remove("a"), api.ErrNone)
	d.Crash(0, 0)
	if !d.Up() {
		t.Error("Up(): false")
	}
	has(t, d.Clone())
	told(t, "Append", d.Append("a", "x"), api.OK)
	has(t, &d, "a", "x")
}

// 6.1: how long a name is.
func TestNameLengths(t *testing.T) {
	for n := range 600 {
		if got, want := disk.Name(strings.Repeat("a", n)), n >= 1 && n <= 240; got != want {
			t.Errorf("Name of %d bytes: %v", n, got)
		}
	}
}

// 6.1: which bytes a name has, alone, first, last and among others.
func TestNameBytes(t *testing.T) {
	for b := range 256 {
		c := string([]byte{byte(b)})
		want := b >= 33 && b <= 126
		for _, s := range []string{c, c + "a", "a" + c, "a" + c + "a", c + strings.Repeat("a", 239), strings.Repeat("a", 239) + c} {
			if disk.Name(s) != want {
				t.Errorf("Name(%q): %v", s, !want)
			}
		}
	}
	for _, s := range []string{"a/b", ".", "..", "/", "//", "~", "!"} {
		if !disk.Name(s) {
			t.Errorf("Name(%q): false", s)
		}
	}
	for _, s := range badNames() {
		if disk.Name(s) {
			t.Errorf("Name(%q): true", s)
		}
	}
}

// 6.1: bytes come behind a file's, and a file comes if it is not there.
func TestAppend(t *testing.T) {
	d := disk.New()
	told(t, "Append", d.Append("a", "xy"), api.OK)
	has(t, d, "a", "xy")
	told(t, "Append", d.Append("a", "z"), api.OK)
	has(t, d, "a", "xyz")
	told(t, "Append of none", d.Append("a", ""), api.OK)
	has(t, d, "a", "xyz")
	told(t, "Append of none", d.Append("b", ""), api.OK)
	has(t, d, "a", "xyz", "b", "")
	told(t, "Append", d.Append("b", "\x00\xff"), api.OK)
	has(t, d, "a", "xyz", "b", "\x00\xff")
	counts(t, d, 5, 5)
}

// 6.1: bytes come in the place of a file's, and a file comes if it is not there.
func TestWrite(t *testing.T) {
	d := disk.New()
	told(t, "Write", d.Write("a", "xy"), api.OK)
	has(t, d, "a", "xy")
	told(t, "Write of more", d.Write("a", "123"), api.OK)
	has(t, d, "a", "123")
	told(t, "Write of fewer", d.Write("a", "4"), api.OK)
	has(t, d, "a", "4")
	told(t, "Append", d.Append("a", "5"), api.OK)
	has(t, d, "a", "45")
	told(t, "Write of none", d.Write("a", ""), api.OK)
	has(t, d, "a", "")
	told(t, "Write of none", d.Write("b", ""), api.OK)
	has(t, d, "a", "", "b", "")
	counts(t, d, 6, 6)
}

// 6.1: bytes behind a file that was cut, or had others in their place, are told as they are now.
func TestAppendBehindOthers(t *testing.T) {
	d := with(t, "a", "0123456789")
	told(t, "Truncate", d.Truncate("a", 3), api.OK)
	before, _ := d.Read("a")
	told(t, "Append", d.Append("a", "xyz"), api.OK)
	told(t, "Write", d.Write("a", "w"), api.OK)
	told(t, "Append", d.Append("a", "v"), api.OK)
	if before != "012" {
		t.Errorf("what was read is %q now", before)
	}
	has(t, d, "a", "wv")
}

// 6.1: the errors of Append and Write, in their order; what is refused changes nothing.
func TestAppendAndWriteRefused(t *testing.T) {
	for _, dead := range []bool{false, true} {
		d := with(t, "a", "xy")
		d.Room(2)
		if dead {
			d.Crash(0, 0)
		}
		for _, put := range []func(name, s string) api.Errno{d.Append, d.Write} {
			want := []api.Errno{api.ErrName, api.ErrFull}
			if dead {
				want = []api.Errno{api.ErrDead, api.ErrDead}
			}
			for _, n := range badNames() {
				told(t, "no name, no room", put(n, "xyz"), want[0])
				told(t, "no name", put(n, ""), want[0])
			}
			told(t, "no room", put("a", "xyz"), want[1])
			told(t, "no room", put("b", "x"), want[1])
		}
		if dead {
			told(t, "Append", d.Append("a", ""), api.ErrDead)
			told(t, "Write", d.Write("a", ""), api.ErrDead)
		}
		counts(t, d, 1, 0)
		d.Up()
		has(t, d, "a", "xy")
	}
}

// 6.1: at the edge of the room; the bytes of all files count.
func TestRoomForAppend(t *testing.T) {
	d := with(t, "a", "123", "b", "45")
	d.Room(8)
	told(t, "one byte above", d.Append("a", "6789"), api.ErrFull)
	told(t, "one byte above", d.Append("c", "6789"), api.ErrFull)
	has(t, d, "a", "123", "b", "45")
	told(t, "just fitting", d.Append("a", "678"), api.OK)
	has(t, d, "a", "123678", "b", "45")
	told(t, "one more", d.Append("b", "9"), api.ErrFull)
	told(t, "one more", d.Append("c", "9"), api.ErrFull)
	told(t, "none", d.Append("b", ""), api.OK)
	told(t, "none", d.Append("c", ""), api.OK)
	has(t, d, "a", "123678", "b", "45", "c", "")
}

// 6.1: in place of a file's bytes there is room for as many, and for what is left besides.
func TestRoomForWrite(t *testing.T) {
	d := with(t, "a", "123", "b", "45")
	d.Room(8)
	told(t, "one byte above", d.Write("a", "1234567"), api.ErrFull)
	told(t, "one byte above", d.Write("c", "1234"), api.ErrFull)
	told(t, "just fitting", d.Write("a", "123456"), api.OK)
	has(t, d, "a", "123456", "b", "45")
	told(t, "one more", d.Write("b", "456"), api.ErrFull)
	told(t, "as many", d.Write("b", "54"), api.OK)
	told(t, "fewer", d.Write("a", "12345"), api.OK)
	told(t, "just fitting", d.Write("c", "x"), api.OK)
	has(t, d, "a", "12345", "b", "54", "c", "x")
}

// 6.1: with less room than all files have already, what does not grow is done.
func TestRoomBelowUsed(t *testing.T) {
	for _, room := range []int{0, 1, 4} {
		d := with(t, "a", "123", "b", "45")
		d.Room(room)
		told(t, "longer", d.Write("a", "1234"), api.ErrFull)
		told(t, "longer", d.Append("a", "4"), api.ErrFull)
		told(t, "a new file", d.Write("c", "4"), api.ErrFull)
		told(t, "as long", d.Write("a", "321"), api.OK)
		has(t, d, "a", "321", "b", "45")
		told(t, "none", d.Append("a", ""), api.OK)
		told(t, "a new file without bytes", d.Write("c", ""), api.OK)
		told(t, "a new file without bytes", d.Append("d", ""), api.OK)
		told(t, "Move", d.Move("b", "e"), api.OK)
		told(t, "Truncate", d.Truncate("e", 2), api.OK)
		has(t, d, "a", "321", "c", "", "d", "", "e", "45")
		d.Room(0)
		told(t, "shorter", d.Write("a", "32"), api.OK)
		has(t, d, "a", "32", "c", "", "d", "", "e", "45")
	}
}

// 6.1: a file has a name that was free, and one that another file had.
func TestMove(t *testing.T) {
	d := with(t, "a", "1", "b", "22", "c", "")
	told(t, "to a free name", d.Move("a", "z"), api.OK)
	has(t, d, "b", "22", "c", "", "z", "1")
	told(t, "to a name that is taken", d.Move("z", "b"), api.OK)
	has(t, d, "b", "1", "c", "")
	told(t, "a file without bytes", d.Move("c", "b"), api.OK)
	has(t, d, "b", "")
	long := strings.Repeat("~", 240)
	told(t, "to a long name", d.Move("b", long), api.OK)
	has(t, d, long, "")
	told(t, "from there", d.Move("b", "c"), api.ErrNone)
	counts(t, d, 7, 0)
	told(t, "Append", d.Append(long, "x"), api.OK)
	told(t, "Append", d.Append("b", "y"), api.OK)
	has(t, d, "b", "y", long, "x")
}

// 6.1: the errors of Move, in their order; what is refused changes nothing.
func TestMoveRefused(t *testing.T) {
	d := with(t, "a", "1", "b", "2")
	for _, bad := range badNames() {
		for _, to := range append(badNames(), "a", "b", "z") {
			told(t, "no name", d.Move(bad, to), api.ErrName)
		}
		told(t, "not there, to no name", d.Move("z", bad), api.ErrNone)
		told(t, "to no name", d.Move("a", bad), api.ErrName)
	}
	told(t, "not there", d.Move("z", "a"), api.ErrNone)
	told(t, "not there, the same", d.Move("z", "z"), api.ErrNone)
	told(t, "the same", d.Move("a", "a"), api.ErrArg)
	counts(t, d, 2, 0)
	has(t, d, "a", "1", "b", "2")
	d.Crash(0, 0)
	for _, n := range append(badNames(), "a", "z") {
		for _, to := range append(badNames(), "a", "b") {
			told(t, "dead", d.Move(n, to), api.ErrDead)
		}
	}
	counts(t, d, 2, 0)
	d.Up()
	has(t, d, "a", "1", "b", "2")
}

// 6.1: a file goes, alone; its errors.
func TestRemove(t *testing.T) {
	d := with(t, "a", "1", "b", "2")
	for _, bad := range badNames() {
		told(t, "no name", d.Remove(bad), api.ErrName)
	}
	told(t, "not there", d.Remove("z"), api.ErrNone)
	counts(t, d, 2, 0)
	told(t, "Remove", d.Remove("a"), api.OK)
	has(t, d, "b", "2")
	told(t, "twice", d.Remove("a"), api.ErrNone)
	counts(t, d, 3, 0)
	told(t, "Append", d.Append("a", "x"), api.OK)
	has(t, d, "a", "x", "b", "2")
	d.Crash(1, 0)
	for _, n := range append(badNames(), "a", "z") {
		told(t, "dead", d.Remove(n), api.ErrDead)
	}
	d.Up()
	has(t, d, "a", "x", "b", "2")
}

// 6.1: a file is cut to no bytes, to some, and to all that it has.
func TestTruncate(t *testing.T) {
	d := with(t, "a", "12345", "b", "")
	for _, n := range []int{5, 4, 1, 1, 0, 0} {
		told(t, "Truncate", d.Truncate("a", n), api.OK)
		has(t, d, "a", "12345"[:n], "b", "")
	}
	told(t, "Truncate", d.Truncate("b", 0), api.OK)
	has(t, d, "a", "", "b", "")
	counts(t, d, 9, 0)
}

// 6.1: the errors of Truncate, in their order; what is refused changes nothing.
func TestTruncateRefused(t *testing.T) {
	d := with(t, "a", "12345", "b", "")
	wrong := []int{-1, 6, 7, math.MinInt, math.MaxInt}
	for _, n := range append(wrong, 0, 5) {
		for _, bad := range badNames() {
			told(t, "no name", d.Truncate(bad, n), api.ErrName)
		}
		told(t, "not there", d.Truncate("z", n), api.ErrNone)
	}
	for _, n := range wrong {
		told(t, "no length", d.Truncate("a", n), api.ErrArg)
		told(t, "no length", d.Truncate("b", n), api.ErrArg)
	}
	told(t, "one above", d.Truncate("b", 1), api.ErrArg)
	counts(t, d, 2, 0)
	has(t, d, "a", "12345", "b", "")
	d.Crash(0, 0)
	for _, n := range append(wrong, 0, 5) {
		for _, name := range append(badNames(), "a", "z") {
			told(t, "dead", d.Truncate(name, n), api.ErrDead)
		}
	}
	d.Up()
	has(t, d, "a", "12345", "b", "")
}

// 6.1: bytes that were cut do not come again, when others come behind the rest.
func TestTruncateLoose(t *testing.T) {
	d := disk.New()
	d.Append("a", "123")
	d.Append("a", "456")
	told(t, "one above", d.Truncate("a", 7), api.ErrArg)
	told(t, "Truncate", d.Truncate("a", 4), api.OK)
	has(t, d, "a", "1234")
	d.Append("a", "x")
	has(t, d, "a", "1234x")
}

// 6.1: Read's errors, in their order; beside an error there are no bytes.
func TestReadRefused(t *testing.T) {
	d := with(t, "a", "1")
	read := func(name string, want api.Errno) {
		t.Helper()
		if s, e := d.Read(name); s != "" || e != want {
			t.Errorf("Read(%q): %q, %d; not %d", name, s, int(e), int(want))
		}
	}
	for _, bad := range badNames() {
		read(bad, api.ErrName)
	}
	read("z", api.ErrNone)
	d.Crash(0, 0)
	for _, n := range append(badNames(), "a", "z") {
		read(n, api.ErrDead)
	}
}

// 6.1: names are sorted by their bytes, however they came; the list is the caller's.
func TestNames(t *testing.T) {
	d := disk.New()
	if l := d.Names(); len(l) != 0 {
		t.Errorf("Names() of none: %q", l)
	}
	want := []string{"!", "A", "B", "a", "a!", "a/b", "aa", "b", "~"}
	for _, i := range []int{4, 0, 8, 2, 6, 1, 7, 3, 5} {
		d.Write(want[i], "")
	}
	got := d.Names()
	if !slices.Equal(got, want) {
		t.Fatalf("Names(): %q", got)
	}
	got[0], got[1] = "z", "y"
	_ = append(got[:2], "x")
	if got := d.Names(); !slices.Equal(got, want) {
		t.Errorf("Names() behind a change of what it told: %q", got)
	}
}

// 6.1: Sync makes all files sure, and is no change; a dead disk has none.
func TestSync(t *testing.T) {
	d := disk.New()
	told(t, "Sync of none", d.Sync(), api.OK)
	counts(t, d, 0, 0)
	d.Append("a", "1")
	d.Append("a", "2")
	d.Write("b", "3")
	counts(t, d, 3, 3)
	told(t, "Sync", d.Sync(), api.OK)
	counts(t, d, 3, 0)
	has(t, d, "a", "12", "b", "3")
	told(t, "Sync again", d.Sync(), api.OK)
	d.Crash(0, 0)
	told(t, "Sync of a dead one", d.Sync(), api.ErrDead)
	d.Up()
	has(t, d, "a", "12", "b", "3")
	told(t, "Sync", d.Sync(), api.OK)
}

// 6.2: a nil disk has no power, and nothing else.
func TestNilDisk(t *testing.T) {
	var d *disk.Disk
	for _, n := range append(badNames(), "a") {
		told(t, "Append", d.Append(n, "x"), api.ErrDead)
		told(t, "Write", d.Write(n, "x"), api.ErrDead)
		told(t, "Move", d.Move(n, "b"), api.ErrDead)
		told(t, "Move", d.Move(n, n), api.ErrDead)
		told(t, "Remove", d.Remove(n), api.ErrDead)
		told(t, "Truncate", d.Truncate(n, -1), api.ErrDead)
		if s, e := d.Read(n); s != "" || e != api.ErrDead {
			t.Errorf("Read: %q, %d", s, int(e))
		}
	}
	told(t, "Sync", d.Sync(), api.ErrDead)
	d.Room(3)
	d.Crash(1, 1)
	d.Plan([]api.Fall{{}})
	if !d.Dead() || d.Up() || !d.Dead() {
		t.Error("Dead(), Up()")
	}
	if len(d.Names()) != 0 || d.Used() != 0 || d.Changes() != 0 || d.Loose() != 0 || d.Clone() != nil {
		t.Error("a nil disk has something")
	}
}
