package mater

import (
	"arbour/api"
	"errors"
)

// Why a step is passed over, or left, with no error of the disk.
var (
	errAway   = errors.New("its bytes are not there")
	errUnfit  = errors.New("it may not be done on what stands there")
	errEnough = errors.New("as many as may be were done")
)

// undone is why a step was not done.
type undone struct {
	step api.Step
	why  error
}

// Error is both in words.
func (u *undone) Error() string { return "mater: " + u.step.Path + ": " + u.why.Error() }

// Unwrap is the reason alone: an error of the disk has its number.
func (u *undone) Unwrap() error { return u.why }
