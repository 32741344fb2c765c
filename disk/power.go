package disk

import (
	"arbour/api"
	"slices"
)

// Crash takes the power now.
func (d *Disk) Crash(keep, torn int) {
	if d.Dead() {
		return
	}
	d.dead = true
	names := d.Names()
	for i := range len(names) {
		if !d.files[names[i]].fall(keep, torn) {
			delete(d.files, names[i])
		}
	}
}

// Up gives it power: whether it had none.
func (d *Disk) Up() bool {
	if d == nil || !d.dead {
		return false
	}
	d.dead = false
	return true
}

// Plan lays when the power will fail.
func (d *Disk) Plan(l []api.Fall) {
	if d != nil {
		d.plan = slices.Clone(l)
	}
}

// change does what nothing but the power can hinder any more.
func (d *Disk) change(do func()) api.Errno {
	if d.strike() {
		return api.ErrDead
	}
	do()
	d.changes++
	return api.OK
}

// strike lets the first fall that was laid for the next change take the power: whether there was one.
func (d *Disk) strike() bool {
	i := slices.IndexFunc(d.plan, func(f api.Fall) bool { return f.At == d.changes })
	if i < 0 {
		return false
	}
	f := d.plan[i]
	// The next change has this number, too: a fall that stayed would strike again.
	d.plan = slices.Delete(d.plan, i, i+1)
	d.Crash(f.Keep, f.Torn)
	return true
}
