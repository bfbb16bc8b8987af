package fsck

import (
	"chronicle/api"
	"chronicle/hint"
	"chronicle/segment"
	"chronicle/simfs"
)

// row is a topic's segments that are being made, with the numbers 1, 2, 3 ..
type row struct {
	disk      *simfs.Disk
	id, limit int
	count     int
	last      *segment.Segment // the one that is written to
}

// begin makes one segment more.
func (r *row) begin(base int64) api.Errno {
	s, e := segment.Create(r.disk, r.id, r.count+1, base, r.limit)
	if e != api.OK {
		return e
	}
	r.last = s
	r.count++
	return api.OK
}

// add lays a record into the last segment, or into a new one, if it has no room there.
func (r *row) add(one api.Record) api.Errno {
	_, e := r.last.Append(one)
	if e != api.ErrRoll {
		return e
	}
	if e := r.seal(); e != api.OK {
		return e
	}
	if e := r.begin(one.Offset); e != api.OK {
		return e
	}
	_, e = r.last.Append(one) // a segment without records takes any
	return e
}

// seal ends the last segment, and writes its hint.
func (r *row) seal() api.Errno {
	if e := r.last.Seal(); e != api.OK {
		return e
	}
	h, _, e := hint.Recover(r.disk, r.id, r.count) // there is no hint yet: the segment itself tells it
	if e != api.OK {
		return e
	}
	return hint.Write(r.disk, r.id, h)
}
