package fsck

import (
	"cmp"
	"maps"
	"slices"

	"chronicle/api"
	"chronicle/manifest"
	"chronicle/record"
	"chronicle/simfs"
)

// Salvage tells every record that is whole, by topic.
func Salvage(d *simfs.Disk) ([]api.Saved, api.Errno) {
	s, e := load(d)
	if e != api.OK {
		return nil, e
	}
	return s.saved(), api.OK
}

// saved is what can be saved of each number, rising.
func (s store) saved() []api.Saved {
	segs := s.segments()
	var list []api.Saved
	for _, id := range slices.Sorted(maps.Keys(segs)) {
		entry, _ := s.entry(id) // where there is none it has no name
		list = append(list, api.Saved{Name: entry.Name, Id: id, Records: s.gather(id, s.inOrder(id, segs[id]))})
	}
	return list
}

// segments is the numbers of the segments' files that are there, by topics.
func (s store) segments() map[int][]int {
	segs := map[int][]int{}
	for _, name := range s.names {
		if n := manifest.Parse(name); n.Kind == api.NSegment && !n.Tmp {
			segs[n.Id] = append(segs[n.Id], n.Seg)
		}
	}
	return segs
}

// inOrder is a topic's segments in the order in which they are gone through: what the manifest names comes first, for it counts.
func (s store) inOrder(id int, segs []int) []int {
	m, _ := manifest.Load(s.disk, id) // one that can't be read names none
	list := m.Segs                    // one that is not there has no bytes, and so no records
	for _, seg := range slices.Sorted(slices.Values(segs)) {
		if !slices.Contains(m.Segs, seg) {
			list = append(list, seg)
		}
	}
	return list
}

// byOffset is records by their offsets.
type byOffset map[int64]api.Record

// gather is the records that are whole in a topic's segments, by rising offsets.
func (s store) gather(id int, segs []int) []api.Record {
	met := byOffset{}
	var rests [][]byte // what no right part tells: whatever is found there counts less than all right parts
	for _, seg := range segs {
		f := s.look(id, seg)
		if !f.hasHead() {
			rests = append(rests, f.bytes)
			continue
		}
		for _, r := range f.recs {
			met.add(r.Rec)
		}
		rests = append(rests, f.bytes[f.info.Size:])
	}
	for _, b := range rests {
		for _, found := range record.Salvage(b) {
			met.add(found.Rec)
		}
	}
	return met.rising()
}

// add takes a record, if none with its offset has been met yet.
func (b byOffset) add(r api.Record) {
	if _, met := b[r.Offset]; !met {
		b[r.Offset] = r
	}
}

// rising is the records in their order.
func (b byOffset) rising() []api.Record {
	list := make([]api.Record, 0, len(b))
	for _, r := range b {
		list = append(list, r)
	}
	slices.SortFunc(list, func(x, y api.Record) int { return cmp.Compare(x.Offset, y.Offset) })
	return list
}
