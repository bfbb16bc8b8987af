package mirror

import (
	"chronicle/api"
	"chronicle/merge"
	"chronicle/octet"
	"chronicle/topic"
)

// The keys of the notes.
const (
	sourceKey = "source"
	placeKey  = "at"
)

// place is how far a mirror is: the number of the topic that it follows (0: it knows none yet), and the position there.
type place struct{ number, position int64 }

// text is what is noted of it.
func (p place) text() string {
	w := octet.NewWriter()
	w.Uvarint(uint64(p.number))
	w.Uvarint(uint64(p.position))
	return string(w.Bytes())
}

// placeOf is the place that was noted so, if it is one.
func placeOf(text string) (place, bool) {
	r := octet.NewReader([]byte(text))
	number, position := r.Uvarint(), r.Uvarint()
	if r.End().Err != api.OK || number >= api.MaxId || position > api.MaxOffset {
		return place{}, false
	}
	return place{int64(number), int64(position)}, true
}

// recall learns what the notes tell. If they don't tell whose they are, that is noted.
func (m *Mirror) recall(now int64) api.Errno {
	name, named, e := m.notes.Get(sourceKey)
	if e != api.OK {
		return e
	}
	if named && name.Value != m.source {
		return api.ErrMirror
	}
	if e := m.recallPlace(); e != api.OK || named {
		return e
	}
	if _, _, e := m.notes.Append(now, api.Write{Key: sourceKey, Value: m.source}); e != api.OK {
		return e
	}
	return m.notes.Commit()
}

// recallPlace learns how far the mirror was. Where that is not noted, it was nowhere.
func (m *Mirror) recallPlace() api.Errno {
	at, there, e := m.notes.Get(placeKey)
	if e != api.OK || !there {
		return e
	}
	noted, ok := placeOf(at.Value)
	if !ok {
		return api.ErrMirror
	}
	m.noted = noted
	return api.OK
}

// note appends how far the mirror is. The notes are nobody else's, so where their segments are at their end nobody else merges them.
func (m *Mirror) note() api.Errno {
	now := m.copy.Tick(0)
	e := m.appendPlace(now)
	if e != api.ErrSegs {
		return e
	}
	if e := compact(m.notes, now); e != api.OK {
		return e
	}
	return m.appendPlace(now)
}

// appendPlace is one try of that.
func (m *Mirror) appendPlace(now int64) api.Errno {
	_, _, e := m.notes.Append(now, api.Write{Key: placeKey, Value: m.at.text()})
	if e == api.OK {
		m.noted = m.at
	}
	return e
}

// compact merges a topic, from the beginning to the end, and tells the first error on the way.
func compact(t *topic.Topic, now int64) api.Errno {
	m, first := merge.Start(t)
	for !m.Over() {
		if _, e := m.Step(now); first == api.OK {
			first = e
		}
	}
	return first
}
