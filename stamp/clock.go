package stamp

import (
	"arbour/api"
)

// Clock is the greatest count that a replica has seen.
type Clock struct {
	who  int
	seen uint64
}

// New is the clock of a replica.
func New(who int) (*Clock, api.Errno) {
	if !replica(who) {
		return nil, api.ErrArg
	}
	return &Clock{who: who}, api.OK
}

// See takes another's time in; one that may not be is let be.
func (c *Clock) See(s api.Stamp) api.Errno {
	if c == nil {
		return api.ErrArg
	}
	if e := Check(s); e != api.OK {
		return e
	}
	c.seen = max(c.seen, s.Count)
	return api.OK
}

// Next is the time behind all that was seen; none, when there is no greater count.
func (c *Clock) Next() (api.Stamp, api.Errno) {
	if c == nil {
		return api.Stamp{}, api.ErrArg
	}
	if c.seen >= api.MaxCount {
		return api.Stamp{}, api.ErrStamp
	}
	c.seen++
	return api.Stamp{Count: c.seen, Who: c.who}, api.OK
}

// Seen is the greatest count that was seen.
func (c *Clock) Seen() uint64 {
	if c == nil {
		return 0
	}
	return c.seen
}
