package dag

import (
	"arbour/api"
	"errors"
	"strconv"
)

// number is the number of a reason, which may be within others; of none OK.
func number(err error) api.Errno {
	var e api.Errno
	if errors.As(err, &e) {
		return e
	}
	return api.OK
}

// refusal is why a node is not taken, with its digest.
type refusal struct {
	digest string
	why    error
}

// Error is both in words; a digest's bytes are no letters, and are quoted.
func (r *refusal) Error() string {
	return "dag: node " + strconv.Quote(r.digest) + ": " + r.why.Error()
}

// Unwrap is the reason.
func (r *refusal) Unwrap() error { return r.why }

// lack is parents of a node that are not there.
type lack struct{ of []string }

func (l *lack) Error() string { return strconv.Itoa(len(l.of)) + " of its parents are not there" }

// Unwrap is the number: it waits for them.
func (l *lack) Unwrap() error { return api.ErrWait }

// late is a parent that is there, and has not a lesser count than the node.
type late struct{ parent string }

func (l *late) Error() string { return "not behind its parent " + strconv.Quote(l.parent) }

// Unwrap is the number: the node is not behind what it names.
func (l *late) Unwrap() error { return api.ErrOld }
