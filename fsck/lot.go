package fsck

import (
	"maps"
	"slices"

	"chronicle/api"
	"chronicle/manifest"
	"chronicle/simfs"
)

// lot is what a topic is made anew of.
type lot struct {
	id, limit int
	records   []api.Record // by rising offsets
	old       api.Manifest // without anything, if it can't be read
	readable  bool         // whether it can be
}

// lotOf is the lot of a topic that the new catalogue is to have, with the records that were saved of it.
func (s store) lotOf(entry api.TopicEntry, records []api.Record) lot {
	m, e := manifest.Load(s.disk, entry.Id)
	return lot{id: entry.Id, limit: entry.Limit, records: records, old: m, readable: e == api.OK}
}

// lay makes the topic's files.
func (l lot) lay(to *simfs.Disk) api.Errno {
	segs, e := l.layRecords(to)
	if e != api.OK {
		return e
	}
	return manifest.Save(to, l.manifest(segs))
}

// layRecords lays the records into segments, and tells how many these are.
func (l lot) layRecords(to *simfs.Disk) (int, api.Errno) {
	base := int64(0)
	if len(l.records) > 0 {
		base = l.records[0].Offset
	}
	r := row{disk: to, id: l.id, limit: l.limit}
	if e := r.begin(base); e != api.OK {
		return 0, e
	}
	for _, one := range l.records {
		if e := r.add(one); e != api.OK {
			return 0, e
		}
	}
	return r.count, r.last.Sync()
}

// manifest is the topic's new manifest, if it has so many segments.
func (l lot) manifest(segs int) api.Manifest {
	m := api.Manifest{Id: l.id, NextSeg: segs + 1, Next: l.old.Next, Mark: l.old.Mark, Clock: l.old.Clock, Prods: l.prods()}
	for seg := range segs {
		m.Segs = append(m.Segs, seg+1)
	}
	for _, r := range l.records {
		m.Next = max(m.Next, r.Offset+1)
		m.Clock = max(m.Clock, r.Time)
	}
	if !l.readable {
		m.Mark = m.Next // nobody knows which tombstones were dropped: readers have to begin anew
	}
	return m
}

// prods is the last number of each producer, by rising Pids.
func (l lot) prods() []api.Prod {
	last := map[int64]api.Prod{}
	note := func(p api.Prod) {
		if known, there := last[p.Pid]; p.Pid > 0 && (!there || known.Seq < p.Seq) {
			last[p.Pid] = p
		}
	}
	// The manifest comes first: what it tells counts, where a record tells the same number.
	for _, p := range l.old.Prods {
		note(p)
	}
	for _, r := range l.records {
		note(api.Prod{Pid: r.Pid, Seq: r.Seq, Off: r.Offset})
	}
	var list []api.Prod
	for _, pid := range slices.Sorted(maps.Keys(last)) {
		list = append(list, last[pid])
	}
	return list[:min(len(list), api.MaxProds)]
}
