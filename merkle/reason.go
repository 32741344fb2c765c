package merkle

import (
	"arbour/api"
	"errors"
	"strconv"
)

// Number is the number of an error that may be within others; of none OK, of one without a number ErrArg.
func Number(err error) api.Errno {
	if err == nil {
		return api.OK
	}
	return within(err)
}

// within is the number of an error, or of one within it.
func within(err error) (n api.Errno) {
	defer func() {
		// An error is somebody else's: where it panics when it is asked for what is within it, nothing is.
		if recover() != nil {
			n = api.ErrArg
		}
	}()
	var found api.Errno
	if errors.As(err, &found) {
		return found
	}
	return api.ErrArg
}

// unshown is why a share shows nothing, with the place that it tells.
type unshown struct {
	at  int
	why error
}

// Error is both in words.
func (u *unshown) Error() string { return "merkle: chunk " + strconv.Itoa(u.at) + ": " + u.why.Error() }

// Unwrap is the number of the reason, and the reason.
func (u *unshown) Unwrap() []error { return []error{kind(u.why), u.why} }

// kind is a reason's number, by its type: all but claims are of the proof.
func kind(why error) api.Errno {
	switch why.(type) {
	case *claim:
		return api.ErrArg
	}
	return api.ErrProof
}

// claim is something that a share says, and that may not be.
type claim struct{ of string }

func (c *claim) Error() string { return c.of + " may not be" }

// length is another number of digests than the way up has.
type length struct{ has, wants int }

func (l *length) Error() string {
	return strconv.Itoa(l.has) + " digests, and the way up has " + strconv.Itoa(l.wants)
}

// stump is a digest beside the way up that has not as many bytes as digests have.
type stump struct{ level int }

func (s *stump) Error() string { return "no digest at level " + strconv.Itoa(s.level) }

// unlike is a way up that comes to another file.
type unlike struct{}

func (u *unlike) Error() string { return "no chunk of that file" }
