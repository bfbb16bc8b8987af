package topic

import (
	"math"
	"slices"

	"chronicle/api"
	"chronicle/manifest"
	"chronicle/record"
	"chronicle/segment"
	"chronicle/simfs"
)

// place is where a topic's files lie, and by which measures they are kept.
type place struct {
	disk    *simfs.Disk
	id      int
	limit   int
	horizon int64
}

// check tells whether a topic may have such a place.
func (p *place) check() api.Errno {
	if p.disk == nil {
		return api.ErrNil
	}
	if p.id < 0 || p.id >= api.MaxId ||
		p.limit < api.MinSeg || p.limit > api.MaxSeg ||
		p.horizon < 0 || p.horizon > api.MaxHorizon {
		return api.ErrConfig
	}
	return api.OK
}

// hasRoom tells whether so many bytes more leave the reserve alone, out of which manifests are written.
func (p *place) hasRoom(size int) bool { return p.disk.Quota()-p.disk.Used()-size >= api.Reserve }

// clear takes all files of the topic's number away.
func (p *place) clear() api.Errno {
	names, e := p.disk.List()
	if e != api.OK {
		return e
	}
	return p.sweep(slices.DeleteFunc(names, func(name string) bool { return !p.owns(name) }))
}

// owns tells whether a file is of the topic's number. Names that are no topic's say 0 there, and that is a topic's too.
func (p *place) owns(name string) bool {
	n := manifest.Parse(name)
	return n.Id == p.id && (n.Kind == api.NSegment || n.Kind == api.NHint || n.Kind == api.NManifest)
}

// sweep takes files away, in their order, and makes that durable.
func (p *place) sweep(names []string) api.Errno {
	if len(names) == 0 {
		return api.OK
	}
	for _, name := range names {
		if e := p.disk.Remove(name); e != api.OK {
			return e
		}
	}
	return p.disk.SyncDir()
}

// read reads the record at a spot of a segment.
func (p *place) read(seg int, s spot) (api.Record, api.Errno) {
	b, e := p.disk.Read(segment.Name(p.id, seg), s.at, s.size)
	if e != api.OK {
		return api.Record{}, e
	}
	r, _, e := record.Decode(b) // not OK only where somebody else has changed the file
	return r, e
}

// found is a record that was found in a segment's file.
type found struct {
	seg int
	api.Placed
}

// entry is what the index says of the record, if it is its key's last one.
func (f found) entry() api.KeyEntry {
	return api.KeyEntry{Key: f.Rec.Key, E: api.Entry{
		Seg: f.seg, At: f.Pos, Size: f.Len,
		Offset: f.Rec.Offset, Time: f.Rec.Time, Tomb: f.Rec.Kind == api.KTombstone,
	}}
}

// survey reads segments, one behind the other, and tells all of their records. ErrTopic, if one is not there, if one of the first so many is not whole and sealed, or if offsets do not rise.
func (p *place) survey(segs []int, sealed int) ([]found, api.Errno) {
	var list []found
	ahead := int64(-1)
	for i, seg := range segs {
		recs, shut, e := p.look(seg)
		if e != api.OK {
			return nil, e
		}
		if i < sealed && !shut {
			return nil, api.ErrTopic
		}
		for _, r := range recs {
			if r.Rec.Offset <= ahead {
				return nil, api.ErrTopic
			}
			ahead = r.Rec.Offset
			list = append(list, found{seg, r})
		}
	}
	return list, api.OK
}

// look reads a segment's file: the records that are right there, and whether all of the file is a sealed segment.
func (p *place) look(seg int) ([]api.Placed, bool, api.Errno) {
	b, e := p.disk.Read(segment.Name(p.id, seg), 0, math.MaxInt)
	if e == api.ErrDead {
		return nil, false, e
	}
	info, recs, spot := segment.Look(b) // of a file that is not there, or has no right head, it tells the number 0: no segment has that
	if info.Topic != p.id || info.Number != seg {
		return nil, false, api.ErrTopic
	}
	return recs, info.Sealed && spot.Err == api.OK, api.OK
}
