package topic

import (
	"chronicle/api"
	"chronicle/dedupe"
	"chronicle/manifest"
	"chronicle/segment"
	"chronicle/simfs"
)

// Open opens a topic, whatever a crash has left of it.
func Open(d *simfs.Disk, id, limit int, horizon, now int64) (*Topic, api.Errno) {
	t, e := blank(place{d, id, limit, horizon}, now)
	if e != api.OK {
		return nil, e
	}
	if e := t.load(); e != api.OK {
		return nil, e
	}
	if e := t.tidy(); e != api.OK {
		return nil, e
	}
	// The power went in the midst of a roll. What else than a loss of power stands against it now, stands against the next one too, and is told then.
	if t.last.Info().Sealed && t.roll() == api.ErrDead {
		return nil, api.ErrDead
	}
	return t, api.OK
}

// load learns what the files say. All that can be wrong with them is found here, where nothing is changed yet.
func (t *Topic) load() api.Errno {
	m, e := manifest.Load(t.disk, t.id)
	if e == api.ErrDead {
		return e
	}
	if e != api.OK {
		return api.ErrTopic
	}
	list, e := t.survey(m.Segs, len(m.Segs)-1)
	if e != api.OK {
		return e
	}
	t.man, t.nextSeg = m, m.NextSeg
	t.end, t.clock = m.Next, max(t.clock, m.Clock)
	return t.learn(list)
}

// learn lets the records count that were found in the manifest's segments.
func (t *Topic) learn(list []found) api.Errno {
	var late []api.Record // those of the last segment: the manifest does not know of them
	for _, f := range list {
		t.take(f.entry())
		if f.seg == t.lastSeg() {
			late = append(late, f.Rec)
			t.clock = max(t.clock, f.Rec.Time)
		}
	}
	prods, e := dedupe.Fold(t.man.Prods, late)
	if e != api.OK {
		return api.ErrTopic
	}
	t.prods, e = dedupe.New(prods)
	t.noted = t.prods.Clone()
	return e
}

// lastSeg is the number of the segment that is written to.
func (t *Topic) lastSeg() int { return t.man.Segs[len(t.man.Segs)-1] }

// tidy takes away what does not belong to the topic, and cuts off what is torn.
func (t *Topic) tidy() api.Errno {
	names, e := t.disk.List()
	if e != api.OK {
		return e
	}
	if e := t.sweep(manifest.Orphans(names, t.man)); e != api.OK {
		return e
	}
	t.last, e = segment.Open(t.disk, t.id, t.lastSeg(), t.limit)
	return e
}
