package simfs

import (
	"bytes"

	"chronicle/api"
)

// Create makes an empty file.
func (d *Disk) Create(name string) api.Errno {
	if e := d.ready(name); e != api.OK {
		return e
	}
	if d.dir.seen[name] != nil {
		return api.ErrExists
	}
	if len(d.dir.seen) >= api.MaxFiles {
		return api.ErrFiles
	}
	if !d.spend() {
		return api.ErrDead
	}
	d.dir.do(creation{name, &file{}})
	return api.OK
}

// Append writes behind a file's end.
func (d *Disk) Append(name string, b []byte) api.Errno {
	f, e := d.find(name)
	if e != api.OK {
		return e
	}
	if len(b) > 0 && len(b) > d.quota-d.used {
		return api.ErrSpace
	}
	if !d.spend() {
		return api.ErrDead
	}
	f.do(addition{bytes.Clone(b)})
	d.used += len(b)
	return api.OK
}

// Truncate cuts a file.
func (d *Disk) Truncate(name string, n int) api.Errno {
	f, e := d.find(name)
	if e != api.OK {
		return e
	}
	if n < 0 || n > len(f.seen) {
		return api.ErrArg
	}
	if !d.spend() {
		return api.ErrDead
	}
	d.used -= len(f.seen) - n
	f.do(truncation{n})
	return api.OK
}

// Sync makes a file's bytes durable.
func (d *Disk) Sync(name string) api.Errno {
	f, e := d.find(name)
	if e != api.OK {
		return e
	}
	if !d.spend() {
		return api.ErrDead
	}
	f.settle()
	return api.OK
}

// SyncDir makes the directory durable.
func (d *Disk) SyncDir() api.Errno {
	if e := d.ready(); e != api.OK {
		return e
	}
	if !d.spend() {
		return api.ErrDead
	}
	d.dir.settle()
	return api.OK
}

// Rename gives a file another name, in the place of the one that bears it.
func (d *Disk) Rename(from, to string) api.Errno {
	if e := d.ready(from, to); e != api.OK {
		return e
	}
	if from == to {
		return api.ErrArg
	}
	if _, e := d.find(from); e != api.OK {
		return e
	}
	if !d.spend() {
		return api.ErrDead
	}
	d.used -= d.size(to)
	d.dir.do(renaming{from, to})
	return api.OK
}

// Remove takes a file away.
func (d *Disk) Remove(name string) api.Errno {
	if _, e := d.find(name); e != api.OK {
		return e
	}
	if !d.spend() {
		return api.ErrDead
	}
	d.used -= d.size(name)
	d.dir.do(removal{name})
	return api.OK
}

// Read reads at most n bytes.
func (d *Disk) Read(name string, at, n int) ([]byte, api.Errno) {
	f, e := d.find(name)
	if e != api.OK {
		return nil, e
	}
	if at < 0 || at > len(f.seen) || n < 0 {
		return nil, api.ErrArg
	}
	rest := f.seen[at:]
	return bytes.Clone(rest[:min(n, len(rest))]), api.OK
}

// Size tells how many bytes a file has.
func (d *Disk) Size(name string) (int, api.Errno) {
	f, e := d.find(name)
	if e != api.OK {
		return 0, e
	}
	return len(f.seen), api.OK
}

// List tells the files' names, rising.
func (d *Disk) List() ([]string, api.Errno) {
	if e := d.ready(); e != api.OK {
		return nil, e
	}
	return rising(d.dir.seen), api.OK
}

// ready tells what stands against any operation with these names.
func (d *Disk) ready(names ...string) api.Errno {
	if d == nil {
		return api.ErrNil
	}
	if d.dead {
		return api.ErrDead
	}
	for _, s := range names {
		if !isName(s) {
			return api.ErrName
		}
	}
	return api.OK
}

// find is the file that a name leads to.
func (d *Disk) find(name string) (*file, api.Errno) {
	if e := d.ready(name); e != api.OK {
		return nil, e
	}
	f := d.dir.seen[name]
	if f == nil {
		return nil, api.ErrNoFile
	}
	return f, api.OK
}

// size is how many bytes a name leads to; none, if it leads to no file.
func (d *Disk) size(name string) int {
	f := d.dir.seen[name]
	if f == nil {
		return 0
	}
	return len(f.seen)
}
