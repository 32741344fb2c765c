package book

import (
	"arbour/api"
	"arbour/mater"
)

// Run does at most so many steps towards what its folder should be: whether it stands so.
func (b *Book) Run(most int) (bool, api.Errno) {
	if b.Dead() {
		return false, api.ErrDead
	}
	_, stands, e := mater.Run(b.disk, b.Image(), b.Bytes, most)
	return stands, b.sure(e)
}

// Compact lays all anew that is still used: nodes, and the bytes that things have; how many records were kept.
func (b *Book) Compact() (int, api.Errno) {
	if b.Dead() {
		return 0, api.ErrDead
	}
	files, gone := b.used()
	records := append(b.nodeRecords(b.dag.Order()), files...)
	if e := b.sure(b.log.Reset(records)); e != api.OK {
		return 0, e
	}
	for _, file := range gone {
		b.store.Forget(file)
	}
	clear(b.parts)
	b.store.Collect()
	return len(records), api.OK
}

// used is the records of files that are wanted, and there whole, and the digests of the others.
func (b *Book) used() (records, gone []string) {
	wanted := b.wanted()
	for file := range b.store.Files() {
		if s, whole := b.Bytes(file); whole && isWanted(wanted, file) {
			records = append(records, fileMark+s)
		} else {
			gone = append(gone, file)
		}
	}
	return records, gone
}

// Status is how it stands.
func (b *Book) Status() api.Status {
	if b == nil {
		return api.Status{}
	}
	return api.Status{
		Nodes: b.dag.Len(),
		Waits: b.dag.Waits(),
		Lacks: len(b.Lacks()),
		Count: b.clock.Seen(),
		Done:  mater.Stands(b.disk, b.Image(), b.Bytes),
	}
}
