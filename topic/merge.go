package topic

import (
	"slices"

	"chronicle/api"
)

// Sealed tells the sealed segments' numbers, in the order of the log.
func (t *Topic) Sealed() []int {
	if t.refusal() != api.OK {
		return nil
	}
	return slices.Clone(t.sealed())
}

// sealed is the manifest's segments but the last.
func (t *Topic) sealed() []int { return t.man.Segs[:len(t.man.Segs)-1] }

// Stats tells their sizes.
func (t *Topic) Stats() []api.SegStat {
	if t.refusal() != api.OK {
		return nil
	}
	kept := map[int]api.SegStat{}
	for _, e := range t.index.All("", "") {
		if t.keeps(t.clock, e) {
			s := kept[e.Seg]
			s.Live++
			s.LiveBytes += e.Size
			kept[e.Seg] = s
		}
	}
	var list []api.SegStat
	for _, seg := range t.sealed() {
		s, p := kept[seg], t.parts[seg]
		s.Number, s.Count, s.Bytes = seg, len(p), p.bytes()
		list = append(list, s)
	}
	return list
}

// keeps tells whether a merge keeps the record that is a key's entry.
func (t *Topic) keeps(now int64, e api.Entry) bool { return !e.Tomb || now < e.Time+t.horizon }

// Needed tells whether a merge keeps a record.
func (t *Topic) Needed(now int64, r api.Record) bool {
	if t.refusal() != api.OK {
		return false
	}
	e, ok := t.index.Get(r.Key)
	return ok && e.Offset == r.Offset && t.keeps(now, e)
}

// Take tells the record at a place of a sealed segment, and the next place (-1: none).
func (t *Topic) Take(seg, at int) (api.Record, int, api.Errno) {
	if e := t.refusal(); e != api.OK {
		return api.Record{}, 0, e
	}
	p := t.parts[seg]
	i, there := p.find(at)
	if !slices.Contains(t.sealed(), seg) || !there && at != 0 || i == len(p) {
		return api.Record{}, 0, api.ErrPlace
	}
	r, e := t.read(seg, p[i])
	if e != api.OK {
		return api.Record{}, 0, e
	}
	if i+1 == len(p) {
		return r, -1, api.OK
	}
	return r, p[i+1].at, api.OK
}

// Hold lets nobody else merge.
func (t *Topic) Hold() api.Errno {
	if e := t.refusal(); e != api.OK {
		return e
	}
	if t.held {
		return api.ErrMerging
	}
	t.held = true
	return api.OK
}

// Release ends that.
func (t *Topic) Release() {
	if t != nil {
		t.held = false
	}
}

// NewSeg tells a segment's number that nothing has had.
func (t *Topic) NewSeg() (int, api.Errno) {
	if e := t.refusal(); e != api.OK {
		return 0, e
	}
	seg := t.nextSeg
	if seg == api.MaxId {
		return 0, api.ErrConfig
	}
	t.nextSeg++
	t.told[seg] = struct{}{}
	return seg, api.OK
}

// Install commits a merge: the manifest names new segments in the place of old ones.
func (t *Topic) Install(olds, news []int, mark int64) api.Errno {
	if e := t.refusal(); e != api.OK {
		return e
	}
	if !t.areFirst(olds) || !t.areTold(news) || mark < 0 || mark > t.end {
		return api.ErrArg
	}
	if len(t.man.Segs)-len(olds)+len(news) > api.MaxSegs {
		return api.ErrSegs
	}
	list, e := t.survey(news, len(news))
	if e != api.OK {
		return e
	}
	if !t.areLeft(olds, list) {
		return api.ErrTopic
	}
	e = t.save(func(m *api.Manifest) {
		m.Segs = slices.Replace(m.Segs, 0, len(olds), news...)
		m.Mark = max(m.Mark, mark)
	})
	if e == api.OK {
		t.swap(olds, news, list)
	}
	return e
}

// areFirst tells whether segments are the first sealed ones.
func (t *Topic) areFirst(olds []int) bool {
	n, sealed := len(olds), t.sealed()
	return n > 0 && n <= len(sealed) && slices.Equal(olds, sealed[:n])
}

// areTold tells whether these are different numbers that NewSeg has told, and that no manifest has named yet.
func (t *Topic) areTold(news []int) bool {
	different := map[int]struct{}{}
	for _, seg := range news {
		if _, told := t.told[seg]; !told {
			return false
		}
		different[seg] = struct{}{}
	}
	return len(different) == len(news)
}

// areLeft tells whether all records of a list are left in these segments.
func (t *Topic) areLeft(olds []int, list []found) bool {
	return !slices.ContainsFunc(list, func(f found) bool { return !t.isLeft(olds, f.Rec) })
}

// isLeft tells whether a record with this one's key and offset is left in these segments.
func (t *Topic) isLeft(olds []int, r api.Record) bool {
	for _, seg := range olds {
		p := t.parts[seg]
		if i, ok := p.from(r.Offset); ok {
			old, e := t.read(seg, p[i])
			return e == api.OK && old.Key == r.Key
		}
	}
	return false
}

// swap lets the records of new segments count, and those of old ones no more.
func (t *Topic) swap(olds, news []int, list []found) {
	for _, seg := range olds {
		delete(t.parts, seg)
	}
	for key, e := range t.index.All("", "") {
		if _, named := t.parts[e.Seg]; !named {
			t.index.Remove(key)
		}
	}
	for _, f := range list {
		t.take(f.entry())
	}
	for _, seg := range news {
		delete(t.told, seg)
	}
}
