package wal_test

import (
	"arbour/api"
	"arbour/disk"
	"arbour/wire"
	"math"
	"slices"
	"strconv"
	"strings"
	"testing"
)

// 7.1: which error it is, with one that applies, and with several.
func TestOpenRefuses(t *testing.T) {
	dead := with(t, "log.1", "rest")
	dead.Crash(0, 0)
	live := with(t, "log.1", "rest", "log.new", "rest")
	changes := live.Changes()
	for _, most := range []int{0, -1, math.MinInt} {
		refused(t, nil, most, api.ErrArg)
		refused(t, dead, most, api.ErrArg)
		refused(t, live, most, api.ErrArg)
	}
	for _, most := range []int{1, 2, math.MaxInt} {
		refused(t, nil, most, api.ErrArg)
		refused(t, dead, most, api.ErrDead)
	}
	has(t, live, "log.1", "rest", "log.new", "rest")
	if live.Changes() != changes {
		t.Error("refused, and changed")
	}
	dead.Up()
	has(t, dead, "log.1", "rest")
	opened(t, dead, 1, 0)
	opened(t, live, math.MaxInt, 0)
}

// state is files as they may stand on a disk, and what is told of them.
type state struct {
	what     string
	files    []string // names and bytes by turns
	cut      int
	segments []int
	records  []string
	left     []string // files that are there then
}

// bad is bytes behind which nothing counts: no frames, frames that are not whole, frames that are no records.
func bad() map[string]string {
	whole := rec("record")
	return map[string]string{
		"no frame":          "torn",
		"no digits":         strings.Repeat("z", 40),
		"another check":     "0000000243fd40e3ra",
		"another text":      "0000000243fd40e2rb",
		"capitals":          strings.ToUpper(recA[:16]) + recA[16:],
		"a letter":          whole[:1],
		"half a count":      whole[:4],
		"a count":           whole[:8],
		"half a check":      whole[:12],
		"no text":           whole[:16],
		"half a text":       whole[:20],
		"all but a letter":  whole[:len(whole)-1],
		"a great count":     "7fffffff" + whole[8:],
		"too great a count": "ffffffff" + whole[8:],
		"a head B":          headB,
		"a head G":          headG,
		"an empty frame":    wire.Frame(""),
		"another letter":    wire.Frame("x"),
		"a capital R":       wire.Frame("Ra"),
		"r not ahead":       wire.Frame("ar"),
		"B and more":        wire.Frame("Br"),
	}
}

// states is disks as they may stand, each with what is told of it.
func states() []state {
	b := func(records ...string) string { return headB + recs(records...) }
	g := func(records ...string) string { return headG + recs(records...) }
	all := []state{
		{"nothing", nil, 0, nil, nil, nil},
		{"log.new alone", []string{"log.new", b("a")}, 0, nil, nil, nil},
		{"a head B alone", []string{"log.1", b()}, 0, []int{1}, nil, []string{"log.1", b()}},
		{"one segment", []string{"log.1", b("a", "", "b")}, 0, []int{1}, []string{"a", "", "b"}, []string{"log.1", b("a", "", "b")}},
		{"heads G behind it", []string{"log.1", b("a"), "log.2", g(), "log.3", g("b", "c")}, 0, []int{1, 2, 3}, []string{"a", "b", "c"},
			[]string{"log.1", b("a"), "log.2", g(), "log.3", g("b", "c")}},
		{"several digits", []string{"log.10", g("c"), "log.11", g("d"), "log.8", b("a"), "log.9", g("b")}, 0, []int{8, 9, 10, 11}, []string{"a", "b", "c", "d"},
			[]string{"log.10", g("c"), "log.11", g("d"), "log.8", b("a"), "log.9", g("b")}},
		{"a great number", []string{"log.1234567", b("a"), "log.1234568", g("b"), "log.99", b("z")}, 0, []int{1234567, 1234568}, []string{"a", "b"},
			[]string{"log.1234567", b("a"), "log.1234568", g("b")}},
		{"several heads B", []string{"log.1", b("x"), "log.2", b("y"), "log.3", b("a"), "log.4", g("b")}, 0, []int{3, 4}, []string{"a", "b"},
			[]string{"log.3", b("a"), "log.4", g("b")}},
		{"the greatest head B by its number", []string{"log.10", b("a"), "log.9", b("x")}, 0, []int{10}, []string{"a"}, []string{"log.10", b("a")}},
		{"segments ahead of it", []string{"log.2", g("x"), "log.3", "rest", "log.4", "", "log.5", g("y") + "rest", "log.6", b("a")}, 0, []int{6}, []string{"a"},
			[]string{"log.6", b("a")}},
		{"a number that is missing behind the first", []string{"log.1", b("a"), "log.3", g("x"), "log.4", g("yy")}, len(g("x") + g("yy")), []int{1}, []string{"a"},
			[]string{"log.1", b("a")}},
		{"a number that is missing later", []string{"log.1", b("a"), "log.2", g("b"), "log.4", g("x")}, len(g("x")), []int{1, 2}, []string{"a", "b"},
			[]string{"log.1", b("a"), "log.2", g("b")}},
		{"a number that is missing, and other bytes ahead of it", []string{"log.1", b("a") + "rest", "log.3", g("x")}, 4 + len(g("x")), []int{1}, []string{"a"},
			[]string{"log.1", b("a")}},
		{"a number that is missing ahead of the head B", []string{"log.1", b("x"), "log.3", b("a")}, 0, []int{3}, []string{"a"}, []string{"log.3", b("a")}},
		{"no head B", []string{"log.1", g("x"), "log.2", g("y")}, 0, nil, nil, nil},
		{"no head at all", []string{"log.1", "torn", "log.7", rec("x")}, 0, nil, nil, nil},
		{"empty files alone", []string{"log.1", "", "log.2", ""}, 0, nil, nil, nil},
		{"an empty file behind it", []string{"log.1", b("a"), "log.2", "", "log.3", g("x")}, len(g("x")), []int{1}, []string{"a"}, []string{"log.1", b("a")}},
		{"an empty file at the end", []string{"log.1", b("a"), "log.2", ""}, 0, []int{1}, []string{"a"}, []string{"log.1", b("a")}},
		{"an empty file ahead", []string{"log.1", "", "log.2", b("a")}, 0, []int{2}, []string{"a"}, []string{"log.2", b("a")}},
		{"a head B that is not whole behind one", []string{"log.1", b("a"), "log.2", headB[:16]}, 16, []int{1}, []string{"a"}, []string{"log.1", b("a")}},
		{"log.new beside", []string{"log.1", b("a"), "log.new", b("x")}, 0, []int{1}, []string{"a"}, []string{"log.1", b("a")}},
		{"log.new beside, and others that go", []string{"log.1", b("x"), "log.2", b("a") + "rest", "log.4", g("y"), "log.new", ""}, 4 + len(g("y")), []int{2}, []string{"a"},
			[]string{"log.2", b("a")}},
	}
	return append(all, badStates(b, g)...)
}

// badStates is disks with bytes that do not count, behind a head and in its place, in the first, in a middle, and in the last segment.
func badStates(b, g func(...string) string) []state {
	var all []state
	for what, s := range bad() {
		rest := s + recs("z", "z") // records behind them count no more
		all = append(all,
			state{what + " in the first", []string{"log.1", b("a") + rest, "log.2", g("x"), "log.3", g("y")}, len(rest + g("x") + g("y")), []int{1}, []string{"a"},
				[]string{"log.1", b("a")}},
			state{what + " in a middle", []string{"log.1", b("a"), "log.2", g("b") + rest, "log.3", g("x")}, len(rest + g("x")), []int{1, 2}, []string{"a", "b"},
				[]string{"log.1", b("a"), "log.2", g("b")}},
			state{what + " in the last", []string{"log.1", b("a"), "log.2", g("b"), "log.3", g("c") + rest}, len(rest), []int{1, 2, 3}, []string{"a", "b", "c"},
				[]string{"log.1", b("a"), "log.2", g("b"), "log.3", g("c")}},
			state{what + " behind a head", []string{"log.1", b("a"), "log.2", g() + s}, len(s), []int{1, 2}, []string{"a"},
				[]string{"log.1", b("a"), "log.2", g()}},
			state{what + " alone", []string{"log.1", b() + s}, len(s), []int{1}, nil, []string{"log.1", b()}},
		)
		if s == headB || s == headG {
			continue
		}
		all = append(all,
			state{what + " for the first head", []string{"log.1", s, "log.2", g("x"), "log.3", g("y")}, 0, nil, nil, nil},
			state{what + " for a middle head", []string{"log.1", b("a"), "log.2", rest, "log.3", g("x")}, len(rest + g("x")), []int{1}, []string{"a"},
				[]string{"log.1", b("a")}},
			state{what + " for the last head", []string{"log.1", b("a"), "log.2", g("b"), "log.3", rest}, len(rest), []int{1, 2}, []string{"a", "b"},
				[]string{"log.1", b("a"), "log.2", g("b")}},
		)
	}
	return all
}

// touched is the files that go, or are cut, in the order in which they must: the greatest number first, and log.new behind all.
func (s state) touched() []string {
	var names []string
	for i := 0; i < len(s.files); i += 2 {
		if name := s.files[i]; s.after(name) != s.files[i+1] || !slices.Contains(s.left, name) {
			names = append(names, name)
		}
	}
	number := func(name string) int {
		n, _ := strconv.Atoi(strings.TrimPrefix(name, "log."))
		return n
	}
	slices.SortFunc(names, func(a, b string) int { return number(b) - number(a) })
	return names
}

// after is the bytes that a file has then.
func (s state) after(name string) string {
	if i := slices.Index(s.left, name); i >= 0 {
		return s.left[i+1]
	}
	return ""
}

// behind is the files behind the first of those changes.
func (s state) behind(done []string) []string {
	var files []string
	for i := 0; i < len(s.files); i += 2 {
		switch name := s.files[i]; {
		case !slices.Contains(done, name):
			files = append(files, name, s.files[i+1])
		case slices.Contains(s.left, name):
			files = append(files, name, s.after(name))
		}
	}
	return files
}

// 7.1: what counts, what did not, and which files are there then; to open a second time is as once, and changes nothing.
func TestOpenStates(t *testing.T) {
	for _, s := range states() {
		t.Run(s.what, func(t *testing.T) {
			d := with(t, s.files...)
			changes := d.Changes()
			holds(t, opened(t, d, 1, s.cut), s.segments, s.records...)
			has(t, d, s.left...)
			sure(t, d)
			if got := d.Changes() - changes; got != len(s.touched()) {
				t.Errorf("%d changes, not %d: %q", got, len(s.touched()), s.touched())
			}
			changes = d.Changes()
			holds(t, opened(t, d, 1, 0), s.segments, s.records...)
			has(t, d, s.left...)
			if d.Changes() != changes {
				t.Error("to open a second time changed something")
			}
		})
	}
}

// 7.1, 7.3: the files go one by one, the one with the greatest number first; a fall at each change leaves what counts, and falls at all of them, too.
func TestOpenFalls(t *testing.T) {
	for _, s := range states() {
		t.Run(s.what, func(t *testing.T) {
			from := with(t, s.files...)
			names := s.touched()
			for i := range names {
				for _, f := range kinds() {
					d := from.Clone()
					f.At = d.Changes() + i
					d.Plan([]api.Fall{f})
					refused(t, d, 1, api.ErrDead)
					d.Up()
					has(t, d, s.behind(names[:i])...)
					reopened(t, d, s)
				}
			}
			d := from.Clone()
			var falls []api.Fall
			for i := range names {
				falls = append(falls, api.Fall{At: d.Changes() + i}, api.Fall{At: d.Changes() + i, Keep: 1}, api.Fall{At: d.Changes() + i, Torn: 1})
			}
			d.Plan(falls)
			for range falls {
				refused(t, d, 1, api.ErrDead)
				d.Up()
			}
			reopened(t, d, s)
		})
	}
}

// reopened wants that a disk holds what counted in a state, however much of it went already.
func reopened(t *testing.T, d *disk.Disk, s state) {
	t.Helper()
	holds(t, openedAnew(t, d, 1), s.segments, s.records...)
	has(t, d, s.left...)
	holds(t, opened(t, d, 1, 0), s.segments, s.records...)
}

// 7.1: names that look like a segment's, or like log.new, and are none, are let be, whatever they hold.
func TestOpenOtherNames(t *testing.T) {
	others := []string{
		"LOG.3", "a", "log", "log,3", "log.", "log.+3", "log.-1", "log.-3", "log.0", "log.00", "log.03", "log.0x3", "log.1.2", "log.18446744073709551619", "log.3.", "log.3/a", "log.3_", "log.3_0", "log.3e0", "log.3x",
		"log.9223372036854775808", "log.New", "log.new.3", "log.news", "log.x", "log.x3", "log..3", "log/3", "log3", "new", "wal.3", "xlog.3", "~log.3",
	}
	slices.Sort(others)
	for _, s := range []string{headB + recs("x"), headG + recs("x"), "", "rest"} {
		var files []string
		for _, name := range others {
			files = append(files, name, s)
		}
		d := with(t, files...)
		changes := d.Changes()
		l := opened(t, d, 1, 0)
		holds(t, l, nil)
		has(t, d, files...)
		if d.Changes() != changes {
			t.Error("to open a disk without segments changed something")
		}

		d = with(t, append(slices.Clone(files), "log.2", headB+recs("a"), "log.4", headG+recs("y"), "log.new", "")...)
		holds(t, opened(t, d, 1, len(headG+recs("y"))), []int{2}, "a")
		for _, name := range []string{"log.4", "log.new"} {
			if slices.Contains(d.Names(), name) {
				t.Error(name, "is there")
			}
		}
		told(t, "Remove", d.Remove("log.2"), api.OK)
		has(t, d, files...)
	}
}

// 7.1: how great most is changes nothing of what counts.
func TestOpenMost(t *testing.T) {
	for _, most := range []int{1, 17, 35, 36, 1000, math.MaxInt} {
		d := with(t, "log.1", headB+recA, "log.2", headG+recB+"rest")
		holds(t, opened(t, d, most, 4), []int{1, 2}, "a", "b")
	}
}

// 7.1: of a segment that was torn at each of its bytes the records that are whole count; with a head that is not whole none does.
func TestOpenTornEverywhere(t *testing.T) {
	records := []string{"a", "", "long record", "b"}
	whole := headG + recs(records...)
	for n := range len(whole) + 1 {
		d := with(t, "log.1", headB+recs("x"), "log.2", whole[:n])
		at, count := len(headG), 0
		for count < len(records) && at+len(rec(records[count])) <= n {
			at += len(rec(records[count]))
			count++
		}
		segments, cut := []int{1, 2}, n-at
		if n < len(headG) {
			segments, cut = []int{1}, n
		}
		holds(t, opened(t, d, 1, cut), segments, append([]string{"x"}, records[:count]...)...)
	}
}

// 7.1: any byte of a segment that is another one takes its frame, and what is behind it.
func TestOpenChangedByte(t *testing.T) {
	whole := headG + recs("a", "b")
	for i := range len(whole) {
		for _, c := range []byte{whole[i] ^ 1, whole[i] ^ 0x20, 0, 'f', 'B', 'r'} {
			if c == whole[i] {
				continue
			}
			s := whole[:i] + string([]byte{c}) + whole[i+1:]
			d := with(t, "log.1", headB, "log.2", s, "log.3", headG+recs("y"))
			want, segments, stay := []string{}, []int{1, 2}, len(headG)
			switch {
			case i < len(headG):
				segments, stay = []int{1}, 0
			case i >= len(headG+recA):
				want, stay = []string{"a"}, len(headG+recA)
			}
			l := opened(t, d, 1, len(whole)-stay+len(headG+recs("y")))
			if !slices.Equal(l.All(), want) || !slices.Equal(l.Segments(), segments) {
				t.Fatalf("byte %d is %q: %q in %v", i, c, l.All(), l.Segments())
			}
		}
	}
}
