package topic

import (
	"slices"

	"chronicle/api"
	"chronicle/hint"
	"chronicle/manifest"
	"chronicle/record"
	"chronicle/segment"
)

// Append appends a record: its offset, and whether it was there already.
func (t *Topic) Append(now int64, w api.Write) (int64, bool, api.Errno) {
	if e := t.refusal(); e != api.OK {
		return 0, false, e
	}
	if !isTime(now) {
		return 0, false, api.ErrArg
	}
	r := t.recordOf(t.Tick(now), w)
	if e := record.Check(r); e != api.OK {
		return 0, false, e
	}
	if verdict, offset := t.noted.Judge(w.Pid, w.Seq); verdict == api.VAgain {
		return offset, true, api.OK
	}
	if e := t.noted.Refuse(w.Pid, w.Seq); e != api.OK {
		return 0, false, e
	}
	size := record.Size(r)
	if e := t.makeRoom(size); e != api.OK {
		return 0, false, e
	}
	if e := t.lay(r, size); e != api.OK {
		return 0, false, e
	}
	return r.Offset, false, api.OK
}

// next is the next offset.
func (t *Topic) next() int64 { return t.end + int64(len(t.pending)) }

// recordOf is the record that a write makes. Where offsets are at their end it has one that may be, so that what else is wrong with it is told first.
func (t *Topic) recordOf(time int64, w api.Write) api.Record {
	r := api.Record{Kind: api.KValue, Offset: t.next(), Time: time, Pid: w.Pid, Seq: w.Seq, Key: w.Key, Value: w.Value}
	if w.Tombstone {
		r.Kind = api.KTombstone
	}
	if r.Offset == api.MaxOffset {
		r.Offset = 0
	}
	return r
}

// makeRoom sees to it that the last segment takes a record of so many bytes.
func (t *Topic) makeRoom(size int) api.Errno {
	if t.next() == api.MaxOffset {
		return api.ErrOffsets
	}
	if !t.hasRoom(size) {
		return api.ErrSpace
	}
	info := t.last.Info()
	if info.Sealed || info.Count > 0 && info.Size+size+api.SegTail > t.limit {
		return t.roll()
	}
	return api.OK
}

// lay appends a record of so many bytes to the last segment; it is pending then.
func (t *Topic) lay(r api.Record, size int) api.Errno {
	at, e := t.last.Append(r)
	if e != api.OK {
		return e
	}
	f := found{t.lastSeg(), api.Placed{Rec: r, Pos: at, Len: size}}
	t.pending = append(t.pending, f.entry())
	return t.noted.Note(r.Pid, r.Seq, r.Offset)
}

// Commit makes what was appended count.
func (t *Topic) Commit() api.Errno {
	if e := t.refusal(); e != api.OK {
		return e
	}
	if len(t.pending) == 0 {
		return api.OK
	}
	if e := t.last.Sync(); e != api.OK {
		return e
	}
	for _, k := range t.pending {
		t.take(k)
	}
	t.pending = nil
	t.prods, t.noted = t.noted, t.noted.Clone()
	return api.OK
}

// Roll seals the segment that is written to, and begins a new one.
func (t *Topic) Roll() api.Errno {
	if e := t.refusal(); e != api.OK {
		return e
	}
	if info := t.last.Info(); info.Count == 0 && !info.Sealed {
		return api.OK
	}
	return t.roll()
}

// roll is Roll of a last segment that holds a record, or is sealed already.
func (t *Topic) roll() api.Errno {
	if e := t.Commit(); e != api.OK {
		return e
	}
	if e := t.crowd(); e != api.OK {
		return e
	}
	if !t.last.Info().Sealed {
		if e := t.last.Seal(); e != api.OK {
			return e
		}
	}
	t.writeHint()
	return t.begin()
}

// crowd tells why there may be no segment more.
func (t *Topic) crowd() api.Errno {
	switch {
	case len(t.man.Segs) < api.MaxSegs:
		return api.OK
	case t.State().Dead == 0:
		return api.ErrLive
	}
	return api.ErrSegs
}

// writeHint writes the hint of the last segment, which is sealed. It may be left out: nothing needs it.
func (t *Topic) writeHint() {
	h, there, e := hint.Recover(t.disk, t.id, t.lastSeg())
	if there || e != api.OK {
		return
	}
	if b, e := hint.Encode(h); e == api.OK && t.hasRoom(len(b)) {
		hint.Write(t.disk, t.id, h)
	}
}

// begin makes a new segment, which is written to from now on.
func (t *Topic) begin() api.Errno {
	seg := t.nextSeg
	if seg == api.MaxId {
		return api.ErrConfig
	}
	s, e := segment.Create(t.disk, t.id, seg, t.end, t.limit)
	if e != api.OK {
		return e
	}
	t.nextSeg++
	e = t.save(func(m *api.Manifest) { m.Segs = append(m.Segs, seg) })
	if e != api.OK {
		t.disk.Remove(segment.Name(t.id, seg)) // the disk may not let it: the answer is what was refused first
		return e
	}
	t.last = s
	return api.OK
}

// save makes the manifest anew: a copy of the old one, with the numbers of what is committed now, and changed as it is asked for.
func (t *Topic) save(change func(*api.Manifest)) api.Errno {
	m := t.man
	m.NextSeg, m.Next, m.Clock = t.nextSeg, t.end, t.clock
	m.Segs, m.Prods = slices.Clone(m.Segs), t.prods.List()
	change(&m)
	if e := manifest.Save(t.disk, m); e != api.OK {
		return e
	}
	t.man = m
	return api.OK
}
