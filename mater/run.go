package mater

import (
	"arbour/api"
	"arbour/disk"
	"arbour/plan"
	"errors"
	"slices"
)

// aside is where a file's bytes wait until all of them are sure: the file that stands there is whole till then.
const aside = asideMark + "0"

// act is one of the things that are done one behind the other.
type act func() api.Errno

// inTurn does one behind the other, up to the first error.
func inTurn(acts ...act) api.Errno {
	for _, do := range acts {
		if e := do(); e != api.OK {
			return e
		}
	}
	return api.OK
}

// folder is a disk's folder on its way to what is wanted.
type folder struct {
	disk *disk.Disk
	get  func(string) (string, bool)
	now  []api.File // what stands there
	done int        // how many steps were done
	most int
}

// Run does at most so many steps towards what is wanted; those whose bytes are not there are passed over: how many were done, and whether no others are left.
func Run(d *disk.Disk, want []api.File, get func(string) (string, bool), most int) (int, bool, api.Errno) {
	if d == nil || get == nil {
		return 0, false, api.ErrArg
	}
	if d.Dead() {
		return 0, false, api.ErrDead
	}
	x := &folder{disk: d, get: get, now: Now(d), most: most}
	err := x.run(plan.Between(x.now, Want(want)))
	var e api.Errno
	if errors.As(err, &e) {
		return 0, false, e
	}
	return x.done, err == nil, api.OK
}

// run does steps: why one of them, which may be done now, was not; nil: there is no such step.
func (x *folder) run(left []api.Step) error {
	for i := 0; i < len(left); {
		err := x.do(left[i])
		switch {
		case err == nil:
			left = slices.Delete(left, i, i+1)
			// Behind this one such may be done that were passed over.
			i = 0
		case errors.Is(err, errAway) || errors.Is(err, errUnfit):
			i++
		default:
			return err
		}
	}
	return nil
}

// do does a step, and Sync; else why it was not done.
func (x *folder) do(s api.Step) error {
	bytes, err := x.bytes(s)
	if err != nil {
		return &undone{s, err}
	}
	next, may := plan.Do(x.now, s)
	if !may {
		return &undone{s, errUnfit}
	}
	if x.done >= x.most {
		return &undone{s, errEnough}
	}
	if e := inTurn(x.acts(s, bytes)...); e != api.OK {
		return &undone{s, e}
	}
	x.now = next
	x.done++
	return nil
}

// bytes is what the file of a step has then.
func (x *folder) bytes(s api.Step) (string, error) {
	if s.Kind != api.StepPut || s.Digest == "" {
		return "", nil
	}
	if bytes, ok := x.ask(s.Digest); ok {
		return bytes, nil
	}
	return "", errAway
}

// ask is the bytes of a digest, if they are there.
func (x *folder) ask(digest string) (s string, ok bool) {
	defer func() {
		// Who is asked is somebody else's: where he panics, he has nothing.
		if recover() != nil {
			s, ok = "", false
		}
	}()
	return x.get(digest)
}

// acts is what is done for a step, one behind the other.
func (x *folder) acts(s api.Step, bytes string) []act {
	d, file, dir := x.disk, fileMark+s.Path, folderMark+s.Path
	switch s.Kind {
	case api.StepRemove:
		return []act{func() api.Errno { return d.Remove(file) }, d.Sync}
	case api.StepRmdir:
		return []act{func() api.Errno { return d.Remove(dir) }, d.Sync}
	case api.StepMkdir:
		return []act{func() api.Errno { return d.Write(dir, "") }, d.Sync}
	}
	return []act{
		func() api.Errno { return d.Write(aside, bytes) },
		d.Sync,
		func() api.Errno { return d.Move(aside, file) },
		d.Sync,
	}
}

// Stands tells whether all stands there as it is wanted, but for files whose bytes are not there.
func Stands(d *disk.Disk, want []api.File, get func(string) (string, bool)) bool {
	_, none, _ := Run(d, want, get, 0)
	return none
}
