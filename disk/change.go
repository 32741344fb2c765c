package disk

import (
	"arbour/api"
)

// Append puts bytes behind a file's.
func (d *Disk) Append(name, s string) api.Errno {
	if e := d.able(name); e != api.OK {
		return e
	}
	f := d.open(name)
	return d.put(name, f, f.now(), s)
}

// Write puts bytes in the place of a file's.
func (d *Disk) Write(name, s string) api.Errno {
	if e := d.able(name); e != api.OK {
		return e
	}
	return d.put(name, d.open(name), nil, s)
}

// Move gives a file another name, in the place of what had it: all of it is sure then.
func (d *Disk) Move(name, to string) api.Errno {
	f, e := d.find(name)
	if e != api.OK {
		return e
	}
	if !Name(to) {
		return api.ErrName
	}
	if name == to {
		return api.ErrArg
	}
	return d.change(func() {
		f.settle(f.now())
		delete(d.files, name)
		d.files[to] = f
	})
}

// Remove takes a file away: that is sure.
func (d *Disk) Remove(name string) api.Errno {
	if _, e := d.find(name); e != api.OK {
		return e
	}
	return d.change(func() { delete(d.files, name) })
}

// Truncate cuts a file to so many bytes: all of it is sure then.
func (d *Disk) Truncate(name string, n int) api.Errno {
	f, e := d.find(name)
	if e != api.OK {
		return e
	}
	if n < 0 || n > len(f.now()) {
		return api.ErrArg
	}
	return d.change(func() { f.settle(f.now()[:n]) })
}

// Sync makes all files sure.
func (d *Disk) Sync() api.Errno {
	if d.Dead() {
		return api.ErrDead
	}
	for _, f := range d.files {
		f.settle(f.now())
	}
	return api.OK
}

// open is the file that has a name, or one that is not there yet.
func (d *Disk) open(name string) *file {
	if f := d.files[name]; f != nil {
		return f
	}
	return &file{}
}

// put lets a file have s behind the bytes that stay of it.
func (d *Disk) put(name string, f *file, stay []byte, s string) api.Errno {
	if !d.holds(len(stay) + len(s) - len(f.now())) {
		return api.ErrFull
	}
	return d.change(func() {
		if d.files == nil {
			d.files = map[string]*file{}
		}
		f.put(stay, s)
		d.files[name] = f
	})
}

// holds tells whether there is room for so many bytes more; there always is for none, and for fewer, however little it has become.
func (d *Disk) holds(more int) bool {
	return !d.short || more <= 0 || d.Used()+more <= d.room
}
