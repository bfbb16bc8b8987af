package manifest

import (
	"chronicle/api"
	"chronicle/simfs"
)

// Replace writes a file whole, or not at all.
func Replace(d *simfs.Disk, name string, b []byte) api.Errno {
	beside := name + behind // this is no file's name, if name is none
	_, e := d.Size(beside)
	if e == api.OK {
		e = d.Remove(beside)
	}
	if e != api.OK && e != api.ErrNoFile {
		return e
	}
	if e := d.Create(beside); e != api.OK {
		return e
	}
	return install(d, beside, name, b)
}

// install lays bytes into a file that has just been made, and gives it its name. If that is refused, the file is taken away.
func install(d *simfs.Disk, beside, name string, b []byte) (e api.Errno) {
	defer func() {
		if e != api.OK {
			d.Remove(beside) // the disk may not let it: the answer is what was refused first
		}
	}()
	if e = d.Append(beside, b); e != api.OK {
		return e
	}
	if e = d.Sync(beside); e != api.OK {
		return e
	}
	if e = d.Rename(beside, name); e != api.OK {
		return e
	}
	return d.SyncDir()
}

// Save writes a topic's manifest.
func Save(d *simfs.Disk, m api.Manifest) api.Errno {
	if d == nil {
		return api.ErrNil
	}
	b, e := Encode(m)
	if e != api.OK {
		return e
	}
	return Replace(d, nameOf(m.Id), b)
}

// Load reads it.
func Load(d *simfs.Disk, id int) (api.Manifest, api.Errno) {
	if d == nil {
		return api.Manifest{}, api.ErrNil
	}
	if !isTopic(id) {
		return api.Manifest{}, api.ErrArg
	}
	b, e := read(d, nameOf(id))
	if e != api.OK {
		return api.Manifest{}, e
	}
	m, e := Decode(b)
	if e != api.OK || m.Id != id {
		return api.Manifest{}, api.ErrDamaged
	}
	return m, api.OK
}

// nameOf is the name of a topic's manifest.
func nameOf(id int) string { return Name(api.FileName{Kind: api.NManifest, Id: id}) }

// SaveCatalogue writes the catalogue.
func SaveCatalogue(d *simfs.Disk, c api.Catalogue) api.Errno {
	if d == nil {
		return api.ErrNil
	}
	b, e := EncodeCatalogue(c)
	if e != api.OK {
		return e
	}
	return Replace(d, catalogue, b)
}

// LoadCatalogue reads it.
func LoadCatalogue(d *simfs.Disk) (api.Catalogue, api.Errno) {
	b, e := read(d, catalogue)
	if e != api.OK {
		return api.Catalogue{}, e
	}
	return DecodeCatalogue(b)
}

// read reads a file's bytes.
func read(d *simfs.Disk, name string) ([]byte, api.Errno) {
	size, e := d.Size(name)
	if e != api.OK {
		return nil, e
	}
	return d.Read(name, 0, size)
}
