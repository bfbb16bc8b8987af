package hint

import (
	"strconv"

	"chronicle/api"
	"chronicle/segment"
	"chronicle/simfs"
)

// Name tells its file's name.
func Name(topic, seg int) string {
	if !isId(topic) || !isId(seg) {
		return ""
	}
	return "t" + strconv.Itoa(topic) + "." + strconv.Itoa(seg) + ".hint"
}

// Write makes the file, and syncs it; the directory is not synced.
func Write(d *simfs.Disk, topic int, h api.Hint) api.Errno {
	if d == nil {
		return api.ErrNil
	}
	if !isId(topic) {
		return api.ErrArg
	}
	b, e := Encode(h)
	if e != api.OK {
		return e
	}
	name := Name(topic, h.Seg)
	if e := d.Create(name); e != api.OK {
		return e
	}
	return fill(d, name, b)
}

// fill lays bytes into a file that has just been made, and syncs it. If that is refused, the file is taken away.
func fill(d *simfs.Disk, name string, b []byte) (e api.Errno) {
	defer func() {
		if e != api.OK {
			d.Remove(name) // the disk may not let it: the answer is what was refused first
		}
	}()
	if e = d.Append(name, b); e != api.OK {
		return e
	}
	return d.Sync(name)
}

// Load reads the file, if it is whole and of this segment.
func Load(d *simfs.Disk, topic, seg int) (api.Hint, api.Errno) {
	if d == nil {
		return api.Hint{}, api.ErrNil
	}
	name := Name(topic, seg)
	if name == "" {
		return api.Hint{}, api.ErrArg
	}
	b, e := read(d, name)
	if e != api.OK && e != api.ErrNoFile {
		return api.Hint{}, e
	}
	h, e := Decode(b) // where there is no file there are no bytes, and these are no hint's
	if e != api.OK {
		return api.Hint{}, e
	}
	size, _ := d.Size(segment.Name(topic, seg)) // 0, where there is no file, and no right hint says that
	if size != h.Size || h.Seg != seg {
		return api.Hint{}, api.ErrHint
	}
	return h, api.OK
}

// read reads a file's bytes.
func read(d *simfs.Disk, name string) ([]byte, api.Errno) {
	size, e := d.Size(name)
	if e != api.OK {
		return nil, e
	}
	return d.Read(name, 0, size)
}

// Recover reads the file, or else the segment's own records.
func Recover(d *simfs.Disk, topic, seg int) (api.Hint, bool, api.Errno) {
	h, e := Load(d, topic, seg)
	if e != api.ErrHint {
		return h, e == api.OK, e
	}
	b, _ := read(d, segment.Name(topic, seg)) // where there is no file there are no bytes, and these are no segment's
	info, recs, spot := segment.Look(b)
	if spot.Err != api.OK || !info.Sealed || info.Topic != topic || info.Number != seg {
		return api.Hint{}, false, api.ErrSegment
	}
	return Of(seg, info.Size, recs), false, api.OK
}
