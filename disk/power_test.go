package disk_test

import (
	"arbour/api"
	"arbour/disk"
	"math"
	"testing"
)

// crashed lets the power of a copy of a disk fail, and wants the files that it has then.
func crashed(t *testing.T, d *disk.Disk, keep, torn int, want ...string) {
	t.Helper()
	c := d.Clone()
	c.Crash(keep, torn)
	if !c.Dead() {
		t.Fatal("it lives behind a crash")
	}
	counts(t, c, d.Changes(), 0)
	if !c.Up() || c.Dead() {
		t.Fatal("it is dead behind Up")
	}
	has(t, c, want...)
	// What a loss of power left is on the disk: another one takes nothing of it.
	c.Crash(0, 0)
	c.Up()
	has(t, c, want...)
}

// 6.2: the chapter's example: of ten bytes eight come to the disk.
func TestExample(t *testing.T) {
	d := disk.New()
	d.Append("a", "0123456789")
	d.Crash(0, 1)
	d.Up()
	has(t, d, "a", "01234567")
}

// 6.2: room below 0, 0 and above, laid anew as often as one likes.
func TestRoom(t *testing.T) {
	d := disk.New()
	d.Room(0)
	told(t, "no room", d.Append("a", "1"), api.ErrFull)
	d.Room(1)
	told(t, "room for one", d.Append("a", "12"), api.ErrFull)
	told(t, "room for one", d.Append("a", "1"), api.OK)
	told(t, "room for one", d.Append("a", "2"), api.ErrFull)
	for _, any := range []int{-1, -2, math.MinInt} {
		d.Room(any)
		told(t, "any room", d.Append("a", "23456789"), api.OK)
		d.Room(d.Used())
		told(t, "no more room", d.Append("a", "2"), api.ErrFull)
	}
	d.Room(math.MaxInt)
	told(t, "much room", d.Append("a", "2"), api.OK)
	d.Room(1)
	d.Crash(9, 0)
	d.Room(d.Used() + 1)
	d.Up()
	told(t, "room that was laid on a dead disk", d.Append("a", "23"), api.ErrFull)
	told(t, "room that was laid on a dead disk", d.Append("a", "2"), api.OK)
}

// 6.2: what is gone leaves room; what a loss of power took, too.
func TestRoomComesBack(t *testing.T) {
	d := with(t, "a", "1234", "b", "5678")
	d.Room(8)
	told(t, "Remove", d.Remove("a"), api.OK)
	told(t, "Append", d.Append("b", "12345"), api.ErrFull)
	told(t, "Append", d.Append("b", "1234"), api.OK)
	told(t, "Truncate", d.Truncate("b", 1), api.OK)
	told(t, "Append", d.Append("c", "1234567"), api.OK)
	told(t, "Move", d.Move("b", "c"), api.OK)
	told(t, "Append", d.Append("c", "1234567"), api.OK)
	told(t, "Append", d.Append("c", "8"), api.ErrFull)
	d.Crash(0, 0)
	if d.Used() != 1 {
		t.Errorf("Used() of a dead disk: %d", d.Used())
	}
	d.Up()
	told(t, "Append", d.Append("d", "1234567"), api.OK)
	has(t, d, "c", "5", "d", "1234567")
}

// 6.2: what counts as a change: what is done, even if nothing is other than before; not what is refused, asked or synced.
func TestChanges(t *testing.T) {
	d := disk.New()
	d.Room(4)
	steps := []struct {
		what string
		do   func() api.Errno
		is   bool
	}{
		{"Append", func() api.Errno { return d.Append("a", "12") }, true},
		{"Append of none", func() api.Errno { return d.Append("a", "") }, true},
		{"Append without room", func() api.Errno { return d.Append("a", "345") }, false},
		{"Append to no name", func() api.Errno { return d.Append("", "3") }, false},
		{"Write", func() api.Errno { return d.Write("b", "3") }, true},
		{"Write of the same", func() api.Errno { return d.Write("b", "3") }, true},
		{"Write without room", func() api.Errno { return d.Write("b", "345") }, false},
		{"Write to no name", func() api.Errno { return d.Write(" ", "") }, false},
		{"Sync", func() api.Errno { d.Sync(); return api.ErrNone }, false},
		{"Read", func() api.Errno { d.Read("a"); return api.ErrNone }, false},
		{"Truncate to all", func() api.Errno { return d.Truncate("a", 2) }, true},
		{"Truncate to more", func() api.Errno { return d.Truncate("a", 3) }, false},
		{"Truncate of none", func() api.Errno { return d.Truncate("z", 0) }, false},
		{"Move", func() api.Errno { return d.Move("b", "c") }, true},
		{"Move of none", func() api.Errno { return d.Move("b", "c") }, false},
		{"Move to no name", func() api.Errno { return d.Move("c", "") }, false},
		{"Move to the same", func() api.Errno { return d.Move("c", "c") }, false},
		{"Remove", func() api.Errno { return d.Remove("c") }, true},
		{"Remove of none", func() api.Errno { return d.Remove("c") }, false},
		{"Up", func() api.Errno { d.Up(); return api.ErrNone }, false},
		{"Crash", func() api.Errno { d.Crash(0, 0); return api.ErrNone }, false},
		{"Append to a dead one", func() api.Errno { return d.Append("a", "") }, false},
	}
	n := 0
	for _, s := range steps {
		if e := s.do(); (e == api.OK) != s.is {
			t.Fatalf("%s: %d", s.what, int(e))
		}
		if s.is {
			n++
		}
		if d.Changes() != n {
			t.Fatalf("%s: Changes(): %d, not %d", s.what, d.Changes(), n)
		}
	}
	if d.Up(); d.Changes() != n {
		t.Errorf("Changes() behind a loss of power: %d, not %d", d.Changes(), n)
	}
}

// 6.2: how many changes have loose bytes, behind each kind of change; files are apart.
func TestLoose(t *testing.T) {
	d := disk.New()
	d.Append("a", "1")
	d.Append("a", "2")
	d.Write("a", "3")
	d.Append("b", "4")
	d.Write("c", "5")
	d.Write("c", "6")
	counts(t, d, 6, 6)
	d.Truncate("a", 1)
	counts(t, d, 7, 3)
	d.Append("a", "7")
	counts(t, d, 8, 4)
	d.Move("c", "d")
	counts(t, d, 9, 2)
	d.Move("d", "b") // what had the name is gone, and what was loose of it
	counts(t, d, 10, 1)
	d.Append("b", "8")
	counts(t, d, 11, 2)
	d.Remove("b")
	counts(t, d, 12, 1)
	d.Append("b", "9")
	counts(t, d, 13, 2)
	d.Sync()
	counts(t, d, 13, 0)
	d.Append("b", "9")
	d.Append("", "9")
	d.Truncate("b", 9)
	counts(t, d, 14, 1)
	d.Crash(0, 0)
	counts(t, d, 14, 0)
}

// 6.2: of Appends the first ones are kept, of the next one some bytes.
func TestCrashAppends(t *testing.T) {
	d := with(t, "a", "xy")
	d.Append("a", "1")
	d.Append("a", "22")
	d.Append("a", "333")
	for _, none := range []int{0, -1, math.MinInt} {
		crashed(t, d, none, 0, "a", "xy")
		crashed(t, d, none, -1, "a", "xy")
		crashed(t, d, none, math.MinInt, "a", "xy")
		crashed(t, d, none, 1, "a", "xy1")
		crashed(t, d, none, math.MaxInt, "a", "xy1")
	}
	crashed(t, d, 1, 0, "a", "xy1")
	crashed(t, d, 1, -1, "a", "xy1")
	crashed(t, d, 1, 1, "a", "xy122")
	crashed(t, d, 2, 0, "a", "xy122")
	crashed(t, d, 2, 1, "a", "xy122333")
	for _, all := range []int{3, 4, math.MaxInt} {
		crashed(t, d, all, 0, "a", "xy122333")
		crashed(t, d, all, -1, "a", "xy122333")
		crashed(t, d, all, 1, "a", "xy122333")
		crashed(t, d, all, math.MaxInt, "a", "xy122333")
	}
	has(t, d, "a", "xy122333")
}

// 6.2: of Writes the first ones are kept; of the next one some bytes are all that the file has.
func TestCrashWrites(t *testing.T) {
	d := with(t, "a", "0123456789abcdef")
	d.Write("a", "ABCDEFGHIJ")
	d.Write("a", "klmnopqrstuvw")
	crashed(t, d, 0, 0, "a", "0123456789abcdef")
	crashed(t, d, 0, -1, "a", "0123456789abcdef")
	crashed(t, d, 0, 1, "a", "ABCDEFGH")
	crashed(t, d, 0, 2, "a", "ABCDEFGHIJ")
	crashed(t, d, 1, 0, "a", "ABCDEFGHIJ")
	crashed(t, d, 1, 1, "a", "klmnopqr")
	crashed(t, d, 1, 2, "a", "klmnopqrstuvw")
	crashed(t, d, 2, 0, "a", "klmnopqrstuvw")
	crashed(t, d, 2, 1, "a", "klmnopqrstuvw")
}

// 6.2: Appends and Writes behind one another.
func TestCrashBoth(t *testing.T) {
	d := with(t, "a", "xy")
	d.Append("a", "0123456789")
	d.Write("a", "ABCDEFGHIJ")
	d.Append("a", "klmnopqrst")
	d.Write("a", "")
	d.Append("a", "")
	d.Append("a", "u")
	crashed(t, d, 0, 1, "a", "xy01234567")
	crashed(t, d, 1, 0, "a", "xy0123456789")
	crashed(t, d, 1, 1, "a", "ABCDEFGH")
	crashed(t, d, 2, 0, "a", "ABCDEFGHIJ")
	crashed(t, d, 2, 1, "a", "ABCDEFGHIJklmnopqr")
	crashed(t, d, 3, 0, "a", "ABCDEFGHIJklmnopqrst")
	crashed(t, d, 3, 1, "a", "")
	crashed(t, d, 4, 0, "a", "")
	crashed(t, d, 4, 1, "a", "")
	crashed(t, d, 5, 0, "a", "")
	crashed(t, d, 5, 1, "a", "u")
}

// 6.2: of each file its own first changes are kept, not the disk's.
func TestCrashFiles(t *testing.T) {
	d := disk.New()
	for range 3 {
		d.Append("a", "1")
		d.Write("b", "22")
		d.Append("c", "3")
	}
	d.Append("d", "444444444")
	crashed(t, d, 0, 0)
	crashed(t, d, 0, 1, "a", "1", "b", "22", "c", "3", "d", "44444444")
	crashed(t, d, 1, 0, "a", "1", "b", "22", "c", "3", "d", "444444444")
	crashed(t, d, 2, 0, "a", "11", "b", "22", "c", "33", "d", "444444444")
	crashed(t, d, 2, 1, "a", "111", "b", "22", "c", "333", "d", "444444444")
	crashed(t, d, 3, 0, "a", "111", "b", "22", "c", "333", "d", "444444444")
}

// 6.2: a file that never was settled is there, if some change of it was kept, or a part: one of no bytes, too.
func TestCrashNeverSettled(t *testing.T) {
	d := disk.New()
	d.Append("a", "")
	d.Write("b", "")
	d.Write("c", "1")
	d.Append("c", "2")
	crashed(t, d, 0, 0)
	crashed(t, d, -1, -1)
	crashed(t, d, 0, 1, "a", "", "b", "", "c", "1")
	crashed(t, d, 1, 0, "a", "", "b", "", "c", "1")
	crashed(t, d, 2, 0, "a", "", "b", "", "c", "12")
	d.Remove("c")
	crashed(t, d, 1, 1, "a", "", "b", "")
}

// 6.2: what Sync, Move and Truncate settled stays; others than that do not.
func TestCrashSettled(t *testing.T) {
	d := disk.New()
	d.Append("a", "1")
	d.Append("b", "2")
	d.Append("c", "3")
	d.Move("a", "m")
	crashed(t, d, 0, 0, "m", "1")
	d.Truncate("b", 1)
	crashed(t, d, 0, 0, "b", "2", "m", "1")
	d.Append("b", "4")
	d.Append("m", "5")
	crashed(t, d, 0, 0, "b", "2", "m", "1")
	d.Truncate("b", 0)
	crashed(t, d, 0, 0, "b", "", "m", "1")
	d.Sync()
	crashed(t, d, 0, 0, "b", "", "c", "3", "m", "15")
	d.Append("c", "6")
	d.Write("n", "7")
	d.Move("n", "c") // in the place of one with loose bytes
	crashed(t, d, 0, 0, "b", "", "c", "7", "m", "15")
	d.Write("b", "8")
	d.Move("b", "x")
	d.Move("x", "y")
	crashed(t, d, 0, 0, "c", "7", "m", "15", "y", "8")
}

// 6.2: that a file is not there any more is sure at once; one that comes with its name was never settled.
func TestCrashGone(t *testing.T) {
	d := with(t, "a", "1", "b", "2", "c", "3")
	d.Remove("a")
	crashed(t, d, 0, 0, "b", "2", "c", "3")
	d.Append("a", "4")
	crashed(t, d, 0, 0, "b", "2", "c", "3")
	crashed(t, d, 1, 0, "a", "4", "b", "2", "c", "3")
	d.Move("b", "c")
	d.Write("b", "5")
	crashed(t, d, 0, 0, "c", "2")
	crashed(t, d, 0, 1, "a", "4", "b", "5", "c", "2")
}

// 6.2: bytes at the edges of TornBytes, of an Append and of a Write; a product that is greater than any number.
func TestCrashTorn(t *testing.T) {
	const all = "0123456789abcdefghijklmno"
	for n := range len(all) + 1 {
		for _, torn := range []int{1, 2, 3, 4, 5, math.MaxInt / 8, math.MaxInt/8 + 1, math.MaxInt / 4, math.MaxInt} {
			left := n
			if torn < 4 {
				left = min(n, torn*8)
			}
			d := with(t, "a", "xyz", "b", "xyz")
			d.Append("a", all[:n])
			d.Write("b", all[:n])
			d.Append("c", all[:n])
			d.Write("d", all[:n])
			crashed(t, d, 0, torn, "a", "xyz"+all[:left], "b", all[:left], "c", all[:left], "d", all[:left])
		}
	}
}

// 6.2: bytes that were torn off do not come again, when others come behind the rest.
func TestAppendBehindCrash(t *testing.T) {
	d := disk.New()
	d.Append("a", "0123456789")
	d.Append("a", "0123456789")
	d.Crash(0, 1)
	d.Up()
	d.Append("a", "xy")
	has(t, d, "a", "01234567xy")
	counts(t, d, 3, 1)
	d.Crash(0, 0)
	d.Up()
	has(t, d, "a", "01234567")
	d.Append("a", "z")
	d.Crash(1, 0)
	d.Up()
	has(t, d, "a", "01234567z")
}

// 6.2: Crash of a dead disk is nothing; Up tells whether it was dead.
func TestDeadAndUp(t *testing.T) {
	d := disk.New()
	if d.Dead() || d.Up() || d.Dead() {
		t.Fatal("Dead(), Up() of one that lives")
	}
	d.Append("a", "1")
	d.Append("a", "2")
	d.Crash(1, 0)
	d.Crash(0, 0)
	d.Crash(9, 9)
	if !d.Dead() || !d.Dead() {
		t.Fatal("Dead() behind Crash")
	}
	if !d.Up() || d.Dead() || d.Up() || d.Dead() {
		t.Fatal("Dead(), Up() behind Crash")
	}
	has(t, d, "a", "1")
	told(t, "Append", d.Append("a", "3"), api.OK)
	has(t, d, "a", "13")
}

// 6.2: a fall strikes ahead of the change with its number, whichever it is; that one is not done, and does not count.
func TestPlanStrikesEach(t *testing.T) {
	for what, do := range map[string]func(d *disk.Disk) api.Errno{
		"Append":   func(d *disk.Disk) api.Errno { return d.Append("a", "3") },
		"to a new": func(d *disk.Disk) api.Errno { return d.Append("n", "3") },
		"Write":    func(d *disk.Disk) api.Errno { return d.Write("a", "3") },
		"Move":     func(d *disk.Disk) api.Errno { return d.Move("a", "n") },
		"Remove":   func(d *disk.Disk) api.Errno { return d.Remove("a") },
		"Truncate": func(d *disk.Disk) api.Errno { return d.Truncate("a", 0) },
	} {
		d := with(t, "a", "1")
		d.Append("a", "2")
		d.Append("a", "4")
		d.Plan([]api.Fall{{At: 3, Keep: 1}})
		told(t, what, do(d), api.ErrDead)
		if !d.Dead() {
			t.Fatal(what, ": it lives")
		}
		counts(t, d, 3, 0)
		told(t, what, do(d), api.ErrDead)
		d.Up()
		has(t, d, "a", "12")
		told(t, what+" again", do(d), api.OK)
		if d.Changes() != 4 {
			t.Fatal(what, d.Changes())
		}
	}
}

// 6.2: how much a fall keeps, and tears.
func TestPlanKeeps(t *testing.T) {
	for _, c := range []struct {
		fall api.Fall
		want []string
	}{
		{api.Fall{At: 2}, nil},
		{api.Fall{At: 2, Keep: -1, Torn: -1}, nil},
		{api.Fall{At: 2, Torn: 1}, []string{"a", "01234567"}},
		{api.Fall{At: 2, Keep: 1}, []string{"a", "0123456789"}},
		{api.Fall{At: 2, Keep: 1, Torn: 1}, []string{"a", "0123456789ABCDEFGH"}},
		{api.Fall{At: 2, Keep: 2, Torn: 1}, []string{"a", "0123456789ABCDEFGHIJ"}},
	} {
		d := disk.New()
		d.Plan([]api.Fall{c.fall})
		told(t, "Append", d.Append("a", "0123456789"), api.OK)
		told(t, "Append", d.Append("a", "ABCDEFGHIJ"), api.OK)
		told(t, "struck", d.Append("a", "x"), api.ErrDead)
		d.Up()
		has(t, d, c.want...)
	}
}

// 6.2: what is refused, asked or synced is no change: no fall strikes there.
func TestPlanSparesOthers(t *testing.T) {
	d := with(t, "a", "1")
	d.Room(1)
	d.Plan([]api.Fall{{At: 1}})
	told(t, "Append", d.Append("", "1"), api.ErrName)
	told(t, "Append", d.Append("a", "1"), api.ErrFull)
	told(t, "Write", d.Write("a", "12"), api.ErrFull)
	told(t, "Move", d.Move("z", "a"), api.ErrNone)
	told(t, "Move", d.Move("a", ""), api.ErrName)
	told(t, "Move", d.Move("a", "a"), api.ErrArg)
	told(t, "Remove", d.Remove("z"), api.ErrNone)
	told(t, "Truncate", d.Truncate("a", 2), api.ErrArg)
	told(t, "Sync", d.Sync(), api.OK)
	has(t, d, "a", "1")
	told(t, "struck", d.Truncate("a", 1), api.ErrDead)
}

// 6.2: several falls, in whatever order of their numbers; each of them strikes once.
func TestPlanLater(t *testing.T) {
	d := disk.New()
	d.Plan([]api.Fall{{At: 5}, {At: 0}, {At: 2}, {At: -1}, {At: math.MinInt}, {At: math.MaxInt}})
	var done []int
	for range 12 {
		at := d.Changes()
		if e := d.Append("a", ""); e != api.OK {
			told(t, "struck", e, api.ErrDead)
			done = append(done, at)
			d.Up()
		}
	}
	if len(done) != 3 || done[0] != 0 || done[1] != 2 || done[2] != 5 {
		t.Errorf("struck at %v", done)
	}
	counts(t, d, 9, 4)
}

// 6.2: numbers that are past strike no more.
func TestPlanPast(t *testing.T) {
	d := with(t, "a", "1", "b", "2")
	d.Plan([]api.Fall{{At: 0}, {At: 1}, {At: -1}})
	for range 5 {
		told(t, "Append", d.Append("a", "1"), api.OK)
	}
}

// 6.2: of several at one change the first of the plan strikes, and the next one at the next change, which has the same number.
func TestPlanSeveral(t *testing.T) {
	d := disk.New()
	d.Plan([]api.Fall{{At: 3, Keep: 2}, {At: 4}, {At: 3, Keep: 1}, {At: 3, Torn: 1}})
	put := func() {
		d.Write("a", "1")
		d.Sync()
		d.Append("a", "2")
		d.Append("a", "3")
	}
	put()
	told(t, "the first", d.Append("a", "4"), api.ErrDead)
	d.Up()
	has(t, d, "a", "123")
	told(t, "the third", d.Append("a", "5"), api.ErrDead)
	d.Up()
	told(t, "the fourth", d.Append("a", "6"), api.ErrDead)
	d.Up()
	told(t, "none", d.Append("a", "7"), api.OK)
	counts(t, d, 4, 1)
	told(t, "the second", d.Append("a", "8"), api.ErrDead)
	d.Up()
	has(t, d, "a", "123")
	for range 3 {
		told(t, "none", d.Append("a", "9"), api.OK)
	}
}

// 6.2: a plan that is laid anew is in the place of the one before; one of none strikes never. A plan outlasts a loss of power.
func TestPlanAnew(t *testing.T) {
	d := disk.New()
	d.Plan([]api.Fall{{At: 0}, {At: 1}})
	d.Plan([]api.Fall{{At: 2}})
	told(t, "Append", d.Append("a", "1"), api.OK)
	d.Crash(1, 0)
	d.Up()
	told(t, "Append", d.Append("a", "2"), api.OK)
	told(t, "struck", d.Append("a", "3"), api.ErrDead)
	d.Plan([]api.Fall{{At: 2}}) // while it is dead
	d.Up()
	told(t, "struck", d.Append("a", "3"), api.ErrDead)
	d.Up()
	d.Plan([]api.Fall{{At: 2}})
	d.Plan(nil)
	told(t, "Append", d.Append("a", "3"), api.OK)
}

// 6.2: the list of a plan is the caller's: it may be changed later, and is not changed by what strikes.
func TestPlanIsCopied(t *testing.T) {
	d := disk.New()
	l := []api.Fall{{At: 0, Keep: 1}, {At: 1}}
	d.Plan(l)
	told(t, "struck", d.Append("a", "1"), api.ErrDead)
	if l[0] != (api.Fall{At: 0, Keep: 1}) || l[1] != (api.Fall{At: 1}) {
		t.Errorf("the caller's list: %v", l)
	}
	l[0], l[1] = api.Fall{At: 0}, api.Fall{At: 9}
	d.Up()
	told(t, "Append", d.Append("a", "1"), api.OK)
	told(t, "struck", d.Append("a", "1"), api.ErrDead)
}

// 6.2: what is done to a disk is not seen in its clone, and what is done to the clone not in the disk.
func TestClone(t *testing.T) {
	d := with(t, "a", "0123456789", "b", "1")
	d.Append("a", "ABCDEFGHIJ")
	d.Append("a", "K")
	d.Write("c", "2")
	d.Append("c", "3")
	d.Room(30)
	d.Plan([]api.Fall{{At: 7, Keep: 1}, {At: 9}})
	same := func(c *disk.Disk) {
		t.Helper()
		counts(t, c, 6, 4)
		has(t, c, "a", "0123456789ABCDEFGHIJK", "b", "1", "c", "23")
		crashed(t, c, 0, 0, "a", "0123456789", "b", "1")
		crashed(t, c, 1, 0, "a", "0123456789ABCDEFGHIJ", "b", "1", "c", "2")
	}
	first, second := d.Clone(), d.Clone()
	same(first)
	for _, x := range []*disk.Disk{d, second} {
		told(t, "full", x.Append("b", "2345678"), api.ErrFull)
		told(t, "Append", x.Append("a", "xyz"), api.OK)
		told(t, "struck", x.Remove("b"), api.ErrDead)
		x.Up()
		has(t, x, "a", "0123456789ABCDEFGHIJ", "b", "1", "c", "2")
		told(t, "Truncate", x.Truncate("a", 2), api.OK)
		told(t, "Append", x.Append("a", "xyzxyzxyzxyz"), api.OK)
		told(t, "struck", x.Remove("c"), api.ErrDead)
		x.Plan([]api.Fall{{At: 10}})
		x.Room(0)
		same(first)
	}
	told(t, "Append", first.Append("a", "xyz"), api.OK)
	told(t, "struck", first.Remove("b"), api.ErrDead)
	if c := first.Clone(); !c.Dead() || !c.Up() || !first.Dead() {
		t.Error("the clone of a dead disk")
	}
	first.Up()
	has(t, first, "a", "0123456789ABCDEFGHIJ", "b", "1", "c", "2")
}

// 6.2: many bytes by many changes are no matter of much time, synced one by one or not, nor is a clone of them.
func TestManyChanges(t *testing.T) {
	const many = 200000
	d := disk.New()
	for i := range many {
		d.Append("a", "x")
		d.Append("b", "y")
		if i%2 == 0 {
			d.Truncate("b", i+1)
		}
	}
	if d.Used() != 2*many || d.Clone().Used() != 2*many {
		t.Errorf("Used(): %d", d.Used())
	}
	crashed := d.Clone()
	crashed.Crash(many/2, 0)
	if crashed.Used() != many/2+many {
		t.Errorf("Used() behind a crash: %d", crashed.Used())
	}
}
