package mirror

import (
	"slices"

	"chronicle/api"
	"chronicle/octet"
)

// snapshot is what is known of one that is being taken.
type snapshot struct {
	at   place // where the mirror will be behind it
	told map[string]struct{}
	last string // the key that was told last
}

// begin takes the answer to the request of a snapshot.
func (m *Mirror) begin(_ int64, r api.Response) api.Errno {
	if !m.isAnswer(r, api.OpSnapshot) || !isPosition(r.Offset) || !isNumber(r.Number) {
		return api.ErrSource
	}
	m.snap = snapshot{at: place{r.Number, r.Offset}, told: map[string]struct{}{}}
	m.state = gathering
	return api.OK
}

// gather applies a delivery of a snapshot's values.
func (m *Mirror) gather(now int64, r api.Response) api.Errno {
	if !m.isAnswer(r, api.OpDeliver) || r.Offset != m.snap.at.position || !m.snap.leadsOn(r.Records) {
		return api.ErrSource
	}
	for _, rec := range r.Records {
		if e := m.apply(now, rec); e != api.OK {
			return e
		}
		m.snap.told[rec.Key] = struct{}{}
		m.snap.last = rec.Key
	}
	if r.More {
		return api.OK
	}
	return m.finish(now)
}

// leadsOn tells whether these are values, of keys that rise behind the last one.
func (s *snapshot) leadsOn(recs []api.Record) bool {
	last := s.last
	for _, rec := range recs {
		if rec.Kind != api.KValue || octet.Compare(rec.Key, last) <= 0 {
			return false
		}
		last = rec.Key
	}
	return true
}

// finish takes away what the snapshot has not told. Behind that the copy is what the source was at the snapshot's moment, and the mirror tails.
func (m *Mirror) finish(now int64) api.Errno {
	if e := m.copy.Commit(); e != api.OK {
		return e
	}
	for _, key := range slices.DeleteFunc(m.keys(), m.snap.has) {
		if e := m.apply(now, api.Record{Kind: api.KTombstone, Key: key}); e != api.OK {
			return e
		}
	}
	m.at = m.snap.at
	m.state, m.snapping, m.snap = asking, false, snapshot{}
	return api.OK
}

// has tells whether a key was told.
func (s *snapshot) has(key string) bool {
	_, told := s.told[key]
	return told
}
