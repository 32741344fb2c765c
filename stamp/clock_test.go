package stamp_test

import (
	"arbour/api"
	"arbour/stamp"
	"testing"
)

// clock is a replica's clock that saw nothing.
func clock(t *testing.T, who int) *stamp.Clock {
	t.Helper()
	c, e := stamp.New(who)
	if c == nil || e != api.OK {
		t.Fatalf("New(%d): %v, %d", who, c, int(e))
	}
	seen(t, c, 0)
	return c
}

// seen wants the greatest count of a clock; to ask it changes nothing.
func seen(t *testing.T, c *stamp.Clock, want uint64) {
	t.Helper()
	for range 2 {
		if got := c.Seen(); got != want {
			t.Fatalf("Seen(): %d, not %d", got, want)
		}
	}
}

// see wants that a clock takes a time, and what it has seen then.
func see(t *testing.T, c *stamp.Clock, s api.Stamp, want uint64) {
	t.Helper()
	if e := c.See(s); e != api.OK {
		t.Fatalf("See(%v): %d", s, int(e))
	}
	seen(t, c, want)
}

// next wants the time that a clock tells, and that it is seen.
func next(t *testing.T, c *stamp.Clock, want api.Stamp) {
	t.Helper()
	if s, e := c.Next(); s != want || e != api.OK {
		t.Fatalf("Next(): %v, %d; not %v", s, int(e), want)
	}
	seen(t, c, want.Count)
}

// ended wants that a clock has no further time, however often it is asked.
func ended(t *testing.T, c *stamp.Clock) {
	t.Helper()
	for range 3 {
		if s, e := c.Next(); s != (api.Stamp{}) || e != api.ErrStamp {
			t.Fatalf("Next() behind the greatest count: %v, %d", s, int(e))
		}
		seen(t, c, greatest)
	}
}

// 4.2: each replica has a clock of its own; others have none.
func TestNew(t *testing.T) {
	for who := range 16 {
		c, other := clock(t, who), clock(t, who)
		next(t, c, api.Stamp{Count: 1, Who: who})
		next(t, c, api.Stamp{Count: 2, Who: who})
		seen(t, other, 0)
		next(t, other, api.Stamp{Count: 1, Who: who})
		seen(t, c, 2)
	}
	for _, who := range badWhos() {
		if c, e := stamp.New(who); c != nil || e != api.ErrArg {
			t.Errorf("New(%d): %v, %d", who, c, int(e))
		}
	}
}

// 4.2: times that are greater, equal and less than what was seen, by whomever.
func TestSee(t *testing.T) {
	c := clock(t, 2)
	see(t, c, api.Stamp{Count: 7, Who: 1}, 7)
	see(t, c, api.Stamp{Count: 7, Who: 1}, 7)
	see(t, c, api.Stamp{Count: 7, Who: 15}, 7)
	see(t, c, api.Stamp{Count: 6, Who: 15}, 7)
	see(t, c, api.Stamp{Count: 1}, 7)
	see(t, c, api.Stamp{Count: 8}, 8)
	see(t, c, api.Stamp{Count: 9, Who: 2}, 9)
	see(t, c, api.Stamp{Count: 1 << 32}, 1<<32)
	see(t, c, api.Stamp{Count: 1<<32 - 1}, 1<<32)
	see(t, c, api.Stamp{Count: greatest - 1, Who: 3}, greatest-1)
	see(t, c, api.Stamp{Count: greatest, Who: 15}, greatest)
	see(t, c, api.Stamp{Count: greatest}, greatest)
	see(t, c, api.Stamp{Count: 1}, greatest)
}

// 4.2: a time that may not be changes nothing, ahead of others and behind them.
func TestSeeMayNotBe(t *testing.T) {
	for _, was := range []uint64{0, 1, 300, greatest - 1, greatest} {
		c := clock(t, 4)
		if was > 0 {
			see(t, c, api.Stamp{Count: was, Who: 4}, was)
		}
		for _, s := range badTimes() {
			if e := c.See(s); e != api.ErrStamp {
				t.Fatalf("See(%v): %d", s, int(e))
			}
			seen(t, c, was)
		}
		if was == greatest {
			ended(t, c)
			continue
		}
		next(t, c, api.Stamp{Count: was + 1, Who: 4})
	}
}

// 4.2: the count behind the greatest one, by this replica, whoever was seen.
func TestNext(t *testing.T) {
	c := clock(t, 2)
	next(t, c, api.Stamp{Count: 1, Who: 2})
	see(t, c, api.Stamp{Count: 1, Who: 9}, 1)
	next(t, c, api.Stamp{Count: 2, Who: 2})
	see(t, c, api.Stamp{Count: 7, Who: 1}, 7)
	next(t, c, api.Stamp{Count: 8, Who: 2})
	see(t, c, api.Stamp{Count: 3, Who: 1}, 8)
	next(t, c, api.Stamp{Count: 9, Who: 2})
	see(t, c, api.Stamp{Count: 1 << 40, Who: 15}, 1<<40)
	next(t, c, api.Stamp{Count: 1<<40 + 1, Who: 2})
}

// 4.2: many times in a row.
func TestNextMany(t *testing.T) {
	for _, from := range []uint64{0, 250, 65530, 1<<32 - 500} {
		c := clock(t, 15)
		if from > 0 {
			see(t, c, api.Stamp{Count: from}, from)
		}
		for i := range uint64(1000) {
			next(t, c, api.Stamp{Count: from + i + 1, Who: 15})
		}
	}
}

// 4.2: up to the greatest count, and there.
func TestNextEnds(t *testing.T) {
	c := clock(t, 3)
	see(t, c, api.Stamp{Count: greatest - 2, Who: 1}, greatest-2)
	next(t, c, api.Stamp{Count: greatest - 1, Who: 3})
	next(t, c, api.Stamp{Count: greatest, Who: 3})
	ended(t, c)
	see(t, c, api.Stamp{Count: 5, Who: 1}, greatest)
	ended(t, c)

	c = clock(t, 3)
	see(t, c, api.Stamp{Count: greatest, Who: 1}, greatest)
	ended(t, c)
}

// 4.2: what Next told may be made a thing of, and no two of them are the same.
func TestNextMayBe(t *testing.T) {
	a, b := clock(t, 0), clock(t, 15)
	made, draw := make(map[uint64]int), drawer(11)
	var last api.Stamp
	for i := range 2000 {
		c, other := a, b
		if draw(2) == 0 {
			c, other = b, a
		}
		s, e := c.Next()
		if e != api.OK || stamp.Check(s) != api.OK || made[stamp.Thing(s)] != 0 {
			t.Fatalf("Next(): %v, %d", s, int(e))
		}
		made[stamp.Thing(s)]++
		see(t, other, s, max(other.Seen(), s.Count))
		// Both saw all that was told: each further time is behind it.
		if stamp.Compare(last, s) >= 0 {
			t.Fatalf("%d: Next() is %v behind %v", i, s, last)
		}
		last = s
	}
}

// 4.2: long rows of calls, as a number that only rises has them.
func TestClockModel(t *testing.T) {
	draw := drawer(5)
	good, bad := goodTimes(), badTimes()
	for range 2000 {
		who := draw(16)
		c, count := clock(t, who), uint64(0)
		for range draw(30) {
			switch draw(4) {
			case 0:
				// Mostly small ones: the first great one would hide all that come behind it.
				s := good[draw(draw(len(good))+1)]
				count = max(count, s.Count)
				see(t, c, s, count)
			case 1:
				if e := c.See(bad[draw(len(bad))]); e != api.ErrStamp {
					t.Fatalf("See of no time: %d", int(e))
				}
				seen(t, c, count)
			default:
				if count == greatest {
					ended(t, c)
					continue
				}
				count++
				next(t, c, api.Stamp{Count: count, Who: who})
			}
		}
	}
}

// 4.2: a nil clock, at times that may be and at those that may not.
func TestNilClock(t *testing.T) {
	var c *stamp.Clock
	for _, s := range append(goodTimes(), badTimes()...) {
		if e := c.See(s); e != api.ErrArg {
			t.Fatalf("See(%v): %d", s, int(e))
		}
		if got, e := c.Next(); got != (api.Stamp{}) || e != api.ErrArg {
			t.Fatalf("Next(): %v, %d", got, int(e))
		}
		seen(t, c, 0)
	}
}
