package merge_test

import (
	"maps"
	"slices"
	"testing"

	"chronicle/api"
	"chronicle/hint"
	"chronicle/manifest"
	"chronicle/record"
	"chronicle/segment"
	"chronicle/simfs"
)

// files is what lies on a disk, by names.
type files map[string]string

func filesOf(image []api.File) files {
	f := files{}
	for _, one := range image {
		f[one.Name] = string(one.Data)
	}
	return f
}

// waiting is a record of an old segment that has not been passed.
type waiting struct {
	seg int
	r   api.Record
}

// product is a new segment.
type product struct {
	number int
	base   int64
	recs   []api.Record
	sealed bool
	hinted bool
}

// bytes is what lies in its file, if chapter 5 is right.
func (n *product) bytes(t *testing.T) string {
	t.Helper()
	d, _ := simfs.New(1 << 20)
	s, e := segment.Create(d, 3, n.number, n.base, 65536)
	want(t, "segment.Create", e, api.OK)
	for _, r := range n.recs {
		s.Append(r)
	}
	if n.sealed {
		s.Seal()
	}
	b, _ := d.Read(segment.Name(3, n.number), 0, 1<<20)
	return string(b)
}

func (n *product) last() int64 {
	if len(n.recs) == 0 {
		return n.base - 1
	}
	return n.recs[len(n.recs)-1].Offset
}

// course is a merge as the chapter tells it, slowly.
type course struct {
	t       *testing.T
	limit   int
	horizon int64
	olds    []int
	queue   []waiting
	news    []*product
	passed  []int64 // the offsets of what was left out
	mark    int64
	synced  bool
	moved   bool
	left    []int // olds whose files are there
	swept   bool
	over    bool
}

// around is what a step sees: the committed log, the time, the room on the disk, its files, and the greatest number that a segment has had.
type around struct {
	log  []api.Record
	now  int64
	room int
	disk files
	top  int
}

// isLast tells whether a record is the last one of its key in the log.
func (a *around) isLast(r api.Record) bool {
	return !slices.ContainsFunc(a.log, func(o api.Record) bool { return o.Key == r.Key && o.Offset > r.Offset })
}

// step is the next step: what it answers, and what lies on the disk behind it.
func (c *course) step(a *around) (api.MergeStep, api.Errno, files) {
	s, e, f := c.deed(a)
	if e == api.OK {
		return s, e, f
	}
	f = maps.Clone(a.disk)
	for _, n := range c.news {
		delete(f, segment.Name(3, n.number))
		delete(f, hint.Name(3, n.number))
	}
	c.over = true
	return does(api.MgGive, 0, 0), e, f
}

func (c *course) deed(a *around) (api.MergeStep, api.Errno, files) {
	f := maps.Clone(a.disk)
	var open *product
	if len(c.news) > 0 {
		open = c.news[len(c.news)-1]
	}
	switch {
	case open != nil && open.sealed && !open.hinted:
		open.hinted = true
		f[hint.Name(3, open.number)] = string(hintOf(c.t, open.number, open.recs))
		return fits(a, f, does(api.MgHint, open.number, 0))
	case len(c.queue) > 0:
		return c.next(a, open)
	case open != nil && !open.sealed:
		return c.seal(a, open)
	case !c.synced:
		c.synced = true
		return does(api.MgDir, 0, 0), api.OK, f
	case !c.moved:
		return c.commit(a)
	case len(c.left) > 0:
		seg := c.left[0]
		c.left = c.left[1:]
		delete(f, segment.Name(3, seg))
		delete(f, hint.Name(3, seg))
		return does(api.MgRemove, seg, 0), api.OK, f
	case !c.swept:
		c.swept = true
		return does(api.MgDir, 0, 0), api.OK, f
	}
	c.over = true
	return does(api.MgEnd, 0, 0), api.OK, f
}

// fits is a step that lays just these files on the disk, if there is room for what is more.
func fits(a *around, f files, s api.MergeStep) (api.MergeStep, api.Errno, files) {
	more := 0
	for name, b := range f {
		more += len(b) - len(a.disk[name])
	}
	if more > a.room {
		return api.MergeStep{}, api.ErrSpace, nil
	}
	return s, api.OK, f
}

// next deals with the next record.
func (c *course) next(a *around, open *product) (api.MergeStep, api.Errno, files) {
	w, f := c.queue[0], maps.Clone(a.disk)
	last := a.isLast(w.r)
	switch {
	case !last || w.r.Kind == 2 && a.now >= w.r.Time+c.horizon:
		c.queue = c.queue[1:]
		c.passed = append(c.passed, w.r.Offset)
		if !last {
			return does(api.MgDrop, w.seg, w.r.Offset), api.OK, f
		}
		c.mark = max(c.mark, w.r.Offset+1)
		return does(api.MgTomb, w.seg, w.r.Offset), api.OK, f
	case open == nil || open.sealed:
		a.top++
		n := &product{number: a.top, base: w.r.Offset}
		f[segment.Name(3, n.number)] = n.bytes(c.t)
		s, e, f := fits(a, f, does(api.MgMake, n.number, n.base))
		if e == api.OK {
			c.news = append(c.news, n)
		}
		return s, e, f
	case len(open.recs) > 0 && 21+sizes(open.recs)+record.Size(w.r)+17 > c.limit:
		return c.seal(a, open)
	case a.room-record.Size(w.r) < 4096:
		return api.MergeStep{}, api.ErrSpace, nil
	}
	c.queue = c.queue[1:]
	open.recs = append(open.recs, w.r)
	f[segment.Name(3, open.number)] = open.bytes(c.t)
	return does(api.MgKeep, open.number, w.r.Offset), api.OK, f
}

func (c *course) seal(a *around, open *product) (api.MergeStep, api.Errno, files) {
	f := maps.Clone(a.disk)
	open.sealed = true
	f[segment.Name(3, open.number)] = open.bytes(c.t)
	return fits(a, f, does(api.MgSeal, open.number, open.last()))
}

// commit is the moment of the merge.
func (c *course) commit(a *around) (api.MergeStep, api.Errno, files) {
	f := maps.Clone(a.disk)
	m, e := manifest.Decode([]byte(f["t3.man"]))
	want(c.t, "manifest.Decode", e, api.OK)
	segs := m.Segs[len(c.olds):]
	m.Segs = nil
	for _, n := range c.news {
		m.Segs = append(m.Segs, n.number)
	}
	m.Segs = append(m.Segs, segs...)
	m.NextSeg, m.Next, m.Clock, m.Mark = a.top+1, int64(len(a.log)), a.now, max(m.Mark, c.mark)
	b, e := manifest.Encode(m)
	want(c.t, "manifest.Encode", e, api.OK)
	if len(b) > a.room { // the old one is there until the new one is whole
		return api.MergeStep{}, api.ErrSpace, nil
	}
	f["t3.man"] = string(b)
	c.moved = true
	return does(api.MgCommit, len(c.news), c.mark), api.OK, f
}
