package wal_test

import (
	"arbour/api"
	"arbour/disk"
	"arbour/wal"
	"slices"
	"testing"
)

// kinds is falls with loose bytes lost, torn and kept; their places are the caller's.
func kinds() []api.Fall {
	return []api.Fall{{}, {Keep: -1, Torn: -1}, {Torn: 1}, {Torn: 2}, {Torn: 5}, {Keep: 1}, {Keep: 1, Torn: 3}, {Keep: 9, Torn: 9}}
}

// openedAnew is the log of a disk, whatever was cut off.
func openedAnew(t *testing.T, d *disk.Disk, most int) *wal.Log {
	t.Helper()
	l, _, e := wal.Open(d, most)
	told(t, "Open", e, api.OK)
	return l
}

// grown is a disk with some segments, and its log; all that was added was told.
func grown(t *testing.T, most, adds int) (*disk.Disk, *wal.Log, []string) {
	t.Helper()
	d := disk.New()
	l := opened(t, d, most, 0)
	var all []string
	for i := range adds {
		r := string(rune('a' + i))
		told(t, "Add", l.Add(r, r+r), api.OK)
		all = append(all, r, r+r)
	}
	return d, l, all
}

// 7.3: a fall ahead of an Add's change: nothing of it is there, all else is, here and behind a new Open; it can be added again.
func TestAddFalls(t *testing.T) {
	for _, most := range []int{1, 80, 1000} {
		for adds := range 4 {
			for _, f := range kinds() {
				d, l, all := grown(t, most, adds)
				segments, before := l.Segments(), files(t, d)
				f.At = d.Changes()
				d.Plan([]api.Fall{f})
				told(t, "Add", l.Add("x", "y", "z"), api.ErrDead)
				holds(t, l, segments, all...)
				d.Up()
				has(t, d, before...)
				holds(t, opened(t, d.Clone(), most, 0), segments, all...)
				told(t, "Add", l.Add("x", "y", "z"), api.OK)
				holds(t, opened(t, d, most, 0), l.Segments(), append(all, "x", "y", "z")...)
			}
		}
	}
}

// 7.2, 7.3: when the power fails while an Add's bytes come to the disk, the first of its records alone are there, and all that was told before; what is added then is there, too.
func TestAddTorn(t *testing.T) {
	for _, most := range []int{1, 80, 1000} {
		for adds := range 4 {
			_, l, all := grown(t, most, adds)
			being := []string{"x", "", "yyyyyyyyyyyyyyyyyyyyyyyyyyyyyyy", "z"}
			told(t, "Add", l.Add(being...), api.OK)
			last := l.Segments()[len(l.Segments())-1]
			seen := map[int]bool{}
			for torn := range 40 {
				d, _, _ := grown(t, most, adds)
				interrupted(t, d, most, being, torn)
				k := openedAnew(t, d, most)
				n := k.Len() - len(all)
				if n < 0 || n > len(being) || !slices.Equal(k.All(), slices.Concat(all, being[:n])) {
					t.Fatalf("torn %d: %q", torn, k.All())
				}
				seen[n] = true
				if s := k.Segments(); len(s) > 0 && s[len(s)-1] > last {
					t.Fatalf("torn %d: %v", torn, s)
				}
				told(t, "Add", k.Add("more"), api.OK)
				d.Crash(0, 0)
				d.Up()
				holds(t, opened(t, d, most, 0), k.Segments(), slices.Concat(all, being[:n], []string{"more"})...)
			}
			if len(seen) != len(being)+1 {
				t.Errorf("of %d records there were %v", len(being), seen)
			}
		}
	}
}

// interrupted lets the bytes of an Add come to a disk, as far as they do when the power fails ahead of its Sync.
func interrupted(t *testing.T, d *disk.Disk, most int, records []string, torn int) {
	t.Helper()
	c := d.Clone()
	told(t, "Add", openedAnew(t, c, most).Add(records...), api.OK)
	for _, name := range c.Names() {
		now, _ := c.Read(name)
		was, _ := d.Read(name)
		if now != was {
			told(t, "Append", d.Append(name, now[len(was):]), api.OK)
		}
	}
	d.Crash(0, torn)
	d.Up()
}

// 7.3: falls again and again while a disk is opened whose last Add came to it in part; the loose bytes of it are lost, torn or kept then.
func TestOpenLoose(t *testing.T) {
	for _, most := range []int{1, 1000} {
		for _, f := range kinds() {
			for _, g := range kinds() {
				d, _, all := grown(t, most, 2)
				told(t, "Write", d.Write("log.new", headB+recs("no")), api.OK)
				told(t, "Sync", d.Sync(), api.OK)
				told(t, "Append", d.Append("log.3", headG+recs("x", "y")+"torn"), api.OK)
				if most > 1 {
					told(t, "Move", d.Move("log.3", "log.2"), api.OK)
				}
				told(t, "Append", d.Append("log.9", headG+recs("z")), api.OK)
				f.At, g.At = d.Changes(), d.Changes()+1
				d.Plan([]api.Fall{f, f, g, g})
				var l *wal.Log
				for range 6 {
					k, cut, e := wal.Open(d, most)
					if e == api.OK {
						l = k
						continue
					}
					told(t, "Open", e, api.ErrDead)
					if k != nil || cut != 0 {
						t.Fatalf("Open with an error: %v, %d", k, cut)
					}
					d.Up()
				}
				n := l.Len() - len(all)
				if n < 0 || n > 2 || !slices.Equal(l.All(), slices.Concat(all, []string{"x", "y"}[:n])) {
					t.Fatalf("%q", l.All())
				}
				if slices.Contains(d.Names(), "log.new") || slices.Contains(d.Names(), "log.9") {
					t.Fatalf("%q", d.Names())
				}
			}
		}
	}
}

// 7.3: a fall at each change of a Reset: what was there, or what was laid; here, too, so that what is added later is there.
func TestResetFalls(t *testing.T) {
	laid := []string{"x", "", "y"}
	for _, most := range []int{1, 80, 1000} {
		for adds := range 5 {
			_, whole, _ := grown(t, most, adds)
			changes := 2 + len(whole.Segments())
			for i := range changes + 1 {
				for _, f := range kinds() {
					d, l, all := grown(t, most, adds)
					f.At = d.Changes() + i
					d.Plan([]api.Fall{f})
					segments, want, e := l.Segments(), all, api.ErrDead
					if i > 1 {
						segments, want = []int{len(segments) + 1}, laid
					}
					if i == changes {
						e = api.OK
					}
					told(t, "Reset", l.Reset(laid), e)
					d.Up()
					d.Plan(nil)
					holds(t, l, segments, want...)
					holds(t, opened(t, d.Clone(), most, 0), segments, want...)
					stays(t, d.Clone(), most, want)

					told(t, "Add", l.Add("more"), api.OK)
					holds(t, opened(t, d.Clone(), most, 0), l.Segments(), append(slices.Clone(want), "more")...)
					told(t, "Reset", l.Reset(laid), api.OK)
					if len(d.Names()) != 1 {
						t.Fatalf("%q", d.Names())
					}
					holds(t, opened(t, d, most, 0), l.Segments(), laid...)
				}
			}
		}
	}
}

// stays wants that a disk holds these records, with a fall behind the first change of each Open.
func stays(t *testing.T, d *disk.Disk, most int, want []string) {
	t.Helper()
	for {
		d.Plan([]api.Fall{{At: d.Changes() + 1, Torn: 1}})
		_, _, e := wal.Open(d, most)
		if e == api.OK {
			break
		}
		told(t, "Open", e, api.ErrDead)
		d.Up()
	}
	d.Plan(nil)
	if l := opened(t, d, most, 0); !slices.Equal(l.All(), want) {
		t.Fatalf("%q, not %q", l.All(), want)
	}
}

// 7.3: while a Reset's others go, those that are left never count, whichever they are: they go the last one first.
func TestResetOrder(t *testing.T) {
	for i := range 4 {
		d, l, _ := grown(t, 1, 3)
		d.Plan([]api.Fall{{At: d.Changes() + 2 + i}})
		e := l.Reset([]string{"x"})
		d.Up()
		want := []string{"log.1", "log.2", "log.3"}[:3-i]
		if (e == api.OK) != (i == 3) || !slices.Equal(d.Names(), append(want, "log.4")) {
			t.Errorf("%d: %d, %q", i, int(e), d.Names())
		}
	}
}

// 7.2, 7.3: a Reset's segment is whole and sure ahead of its Move, and nothing of it is there ahead of that.
func TestResetSure(t *testing.T) {
	for _, f := range kinds() {
		d, l, _ := grown(t, 1, 1)
		before := files(t, d)
		d.Append("other", "bytes of somebody else")
		f.At = d.Changes()
		d.Plan([]api.Fall{f})
		told(t, "Reset", l.Reset([]string{"x", "y"}), api.ErrDead)
		d.Up()
		if names := d.Names(); names[0] != "log.1" || slices.Contains(names, "log.new") {
			t.Errorf("%q", names)
		}
		d.Write("other", "bytes")
		f.At = d.Changes() + 1
		d.Plan([]api.Fall{f})
		told(t, "Reset", l.Reset([]string{"x", "y"}), api.ErrDead)
		d.Up()
		has(t, d, append(before, "log.new", headB+recs("x", "y"), "other", "bytes")...)
	}
}
