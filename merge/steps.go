package merge

import (
	"slices"

	"chronicle/api"
	"chronicle/hint"
	"chronicle/record"
	"chronicle/segment"
)

// copyNext goes on with the next record of the olds: it is passed, or something has to be done ahead of it. An old segment that has none is gone by, which is no step of its own.
func (m *Merge) copyNext() (api.MergeStep, api.Errno) {
	seg := m.olds[m.from]
	r, next, e := m.topic.Take(seg, m.at)
	switch {
	case e == api.ErrPlace && slices.Contains(m.topic.Sealed(), seg): // of one that is none of the sealed any more it is a refusal
		m.pass(-1)
		return m.act()
	case e != api.OK:
		return api.MergeStep{}, e
	}
	size := record.Size(r)
	switch {
	case !m.topic.Needed(m.now, r):
		m.pass(next)
		return m.leaveOut(seg, r), api.OK
	case m.open == nil:
		return m.begin(r.Offset)
	case m.isFull(size):
		return m.seal()
	case !m.hasRoom(size):
		return api.MergeStep{}, api.ErrSpace
	}
	m.pass(next)
	return m.keep(r)
}

// pass lets the next record be the one at a place of the same segment, or the first one of the next segment, if there is no place more.
func (m *Merge) pass(next int) {
	m.at = next
	if next < 0 {
		m.from, m.at = m.from+1, 0
	}
}

// leaveOut tells why a record is not needed, and remembers it, if that is for its age.
func (m *Merge) leaveOut(seg int, r api.Record) api.MergeStep {
	did := api.MergeStep{Kind: api.MgDrop, Seg: seg, Offset: r.Offset}
	// Ahead of all times every tombstone is young: what is needed then is the last one of its key.
	if m.topic.Needed(-1, r) {
		did.Kind = api.MgTomb
		m.mark = r.Offset + 1 // offsets rise
	}
	return did
}

// begin makes a new segment for the records from an offset on.
func (m *Merge) begin(base int64) (api.MergeStep, api.Errno) {
	seg, e := m.topic.NewSeg()
	if e != api.OK {
		return api.MergeStep{}, e
	}
	m.open, e = segment.Create(m.topic.Disk(), m.topic.Id(), seg, base, m.topic.Limit())
	if e != api.OK {
		return api.MergeStep{}, e
	}
	m.news = append(m.news, seg)
	return api.MergeStep{Kind: api.MgMake, Seg: seg, Offset: base}, api.OK
}

// isFull tells whether the open segment has no room for a record of so many bytes, as its Append would tell.
func (m *Merge) isFull(size int) bool {
	info := m.open.Info()
	return info.Count > 0 && info.Size+size+api.SegTail > m.topic.Limit()
}

// hasRoom tells whether so many bytes more leave the reserve alone, out of which manifests are written.
func (m *Merge) hasRoom(size int) bool {
	d := m.topic.Disk()
	return d.Quota()-d.Used()-size >= api.Reserve
}

// keep lays a record into the open segment.
func (m *Merge) keep(r api.Record) (api.MergeStep, api.Errno) {
	_, e := m.open.Append(r)
	return api.MergeStep{Kind: api.MgKeep, Seg: m.open.Info().Number, Offset: r.Offset}, e
}

// seal seals the open segment.
func (m *Merge) seal() (api.MergeStep, api.Errno) {
	e := m.open.Seal()
	info := m.open.Info()
	return api.MergeStep{Kind: api.MgSeal, Seg: info.Number, Offset: info.Last}, e
}

// writeHint writes the hint of the segment that has been sealed.
func (m *Merge) writeHint() (api.MergeStep, api.Errno) {
	info := m.open.Info()
	var recs []api.Placed
	for at, r := range m.open.Places(0) {
		recs = append(recs, api.Placed{Rec: r, Pos: at, Len: record.Size(r)})
	}
	m.open = nil
	e := hint.Write(m.topic.Disk(), m.topic.Id(), hint.Of(info.Number, info.Size, recs))
	return api.MergeStep{Kind: api.MgHint, Seg: info.Number}, e
}

// syncDir makes the names durable.
func (m *Merge) syncDir() (api.MergeStep, api.Errno) {
	m.unsynced = false
	return api.MergeStep{Kind: api.MgDir}, m.topic.Disk().SyncDir()
}

// commit is the moment of the merge.
func (m *Merge) commit() (api.MergeStep, api.Errno) {
	e := m.topic.Install(m.olds, m.news, m.mark)
	m.installed = e == api.OK
	return api.MergeStep{Kind: api.MgCommit, Seg: len(m.news), Offset: m.mark}, e
}

// removeNext takes the next old segment away. If the disk does not let it, it is left to the next opening of the topic.
func (m *Merge) removeNext() (api.MergeStep, api.Errno) {
	seg := m.olds[m.removed]
	m.removed++
	m.unsynced = true
	return api.MergeStep{Kind: api.MgRemove, Seg: seg}, m.remove(seg)
}

// remove takes a segment's files away.
func (m *Merge) remove(seg int) api.Errno {
	d, id := m.topic.Disk(), m.topic.Id()
	d.Remove(hint.Name(id, seg)) // there need not be one; what else stands against it stands against the segment too
	return d.Remove(segment.Name(id, seg))
}

// end is the last step.
func (m *Merge) end() (api.MergeStep, api.Errno) {
	m.finish()
	return api.MergeStep{Kind: api.MgEnd}, api.OK
}
