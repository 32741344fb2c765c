package merkle_test

import (
	"arbour/api"
	"arbour/merkle"
	"errors"
	"fmt"
	"math"
	"testing"
)

// wrap is an error with another one within.
type wrap struct{ within error }

func (w wrap) Error() string { return "wrapped" }
func (w wrap) Unwrap() error { return w.within }

// several is an error with others within; it cannot be compared.
type several []error

func (s several) Error() string   { return "several" }
func (s several) Unwrap() []error { return s }

// bare is an error that looks like a number, and is none.
type bare int

func (b bare) Error() string { return "arbour: an error" }

// pretender says of itself which number it is.
type pretender struct{ n api.Errno }

func (p pretender) Error() string { return "pretender" }
func (p pretender) As(target any) bool {
	n, ok := target.(*api.Errno)
	if ok {
		*n = p.n
	}
	return ok
}

// bad panics when it is asked for what is within it.
type bad struct{}

func (b *bad) Error() string { panic("no text") }
func (b *bad) Unwrap() error { panic("nothing within") }

// hollow has something within only where it is not nil.
type hollow struct{ within error }

func (h *hollow) Error() string { return "hollow" }
func (h *hollow) Unwrap() error { return h.within }

// numbered wants what Number answers, twice.
func numbered(t *testing.T, what string, err error, want api.Errno) {
	t.Helper()
	for range 2 {
		if n := merkle.Number(err); n != want {
			t.Errorf("Number of %s: %d, not %d", what, int(n), int(want))
		}
	}
}

// deep is an error within so many others.
func deep(err error, n int) error {
	for range n {
		err = wrap{err}
	}
	return err
}

// 9.3: nil, and each number as it is.
func TestNumber(t *testing.T) {
	numbered(t, "nil", nil, api.OK)
	for _, e := range []api.Errno{api.OK, api.ErrArg, api.ErrNone, api.ErrMany, api.ErrCut, api.ErrMore, api.ErrForm, api.ErrDead, api.ErrProof, api.ErrLine, 12345, -1, math.MinInt, math.MaxInt} {
		numbered(t, "a number", e, e)
		numbered(t, "one that is wrapped", wrap{e}, e)
		numbered(t, "one that is wrapped by the library", fmt.Errorf("more: %w", e), e)
		numbered(t, "one that is joined", errors.Join(e), e)
		numbered(t, "one behind others", errors.Join(errors.New("a"), bare(3), e), e)
		numbered(t, "one ahead of others", errors.Join(e, errors.New("a")), e)
		numbered(t, "one among several", several{errors.New("a"), wrap{e}}, e)
		numbered(t, "one several deep", wrap{errors.Join(errors.New("a"), fmt.Errorf("b: %w, %w", bare(1), several{wrap{wrap{e}}}))}, e)
		numbered(t, "one that is told", wrap{pretender{e}}, e)
		for _, n := range []int{2, 3, 10, 1000, 1 << 16} {
			numbered(t, "one that is deep", deep(e, n), e)
		}
	}
}

// 9.3: of several numbers the one that the library comes to first.
func TestNumberSeveral(t *testing.T) {
	numbered(t, "two", errors.Join(api.ErrCut, api.ErrForm), api.ErrCut)
	numbered(t, "two", errors.Join(api.ErrForm, api.ErrCut), api.ErrForm)
	numbered(t, "two", errors.Join(wrap{wrap{api.ErrForm}}, api.ErrCut), api.ErrForm)
	numbered(t, "two", errors.Join(errors.New("a"), errors.Join(errors.New("b")), errors.Join(api.ErrCut), api.ErrForm), api.ErrCut)
}

// 9.3: no number within.
func TestNumberNone(t *testing.T) {
	for _, err := range []error{
		errors.New("a"), errors.New(""), errors.New("arbour: an error"), bare(4), bare(0), wrap{}, wrap{bare(6)}, several{}, several{nil}, several{wrap{}, nil, bare(2)},
		errors.Join(errors.New("a"), errors.New("b")), fmt.Errorf("no number: %v", api.ErrCut), deep(errors.New("a"), 1000), deep(nil, 5),
	} {
		numbered(t, err.Error(), err, api.ErrArg)
	}
}

// 9.3 and R1: errors that panic when they are asked.
func TestNumberPanics(t *testing.T) {
	var none *hollow
	for _, err := range []error{&bad{}, wrap{&bad{}}, several{bare(1), &bad{}}, none, wrap{none}} {
		numbered(t, "one that panics", err, api.ErrArg)
	}
	numbered(t, "a number ahead of one that panics", several{api.ErrCut, &bad{}}, api.ErrCut)
	numbered(t, "a hollow one", &hollow{}, api.ErrArg)
	numbered(t, "one that is not", &hollow{api.ErrCut}, api.ErrCut)
}
