package fsck_test

import (
	"fmt"
	"slices"
	"strings"
	"testing"

	"chronicle/api"
	"chronicle/fsck"
	"chronicle/hint"
	"chronicle/manifest"
	"chronicle/record"
	"chronicle/segment"
)

// slowParse is what a name says, by its letters.
func slowParse(name string) api.FileName {
	base, tmp := strings.CutSuffix(name, ".tmp")
	if base == "catalog" {
		return api.FileName{Kind: api.NCatalogue, Tmp: tmp}
	}
	for kind, form := range map[int]string{api.NSegment: "t%d.%d.seg", api.NHint: "t%d.%d.hint"} {
		id, seg := 0, 0
		fmt.Sscanf(base, form, &id, &seg)
		if fmt.Sprintf(form, id, seg) == base && id >= 0 && id <= lastId && seg >= 1 && seg <= lastId {
			return api.FileName{Kind: kind, Id: id, Seg: seg, Tmp: tmp}
		}
	}
	id := 0
	fmt.Sscanf(base, "t%d.man", &id)
	if manName(id) == base && id >= 0 && id <= lastId {
		return api.FileName{Kind: api.NManifest, Id: id, Tmp: tmp}
	}
	return api.FileName{}
}

// isOf tells whether a file is of a topic's number.
func isOf(name string, id int) bool {
	n := slowParse(name)
	return n.Id == id && (n.Kind == api.NSegment || n.Kind == api.NHint || n.Kind == api.NManifest)
}

// slowCatalogue is the catalogue, if it can be read.
func slowCatalogue(f files) (api.Catalogue, bool) {
	c, e := manifest.DecodeCatalogue([]byte(f["catalog"]))
	return c, e == api.OK
}

func slowManifest(f files, id int) (api.Manifest, bool) {
	m, e := manifest.Decode([]byte(f[manName(id)]))
	if e != api.OK || m.Id != id {
		return api.Manifest{}, false
	}
	return m, true
}

// slowLook is what Look tells of a segment's file, and whether it is a right one of this topic and this number.
func slowLook(f files, id, seg int) (api.SegInfo, []api.Placed, api.Spot, bool) {
	b, there := f[segName(id, seg)]
	info, recs, spot := segment.Look([]byte(b))
	right := there && (spot.Err == api.OK || spot.At > 0) && info.Topic == id && info.Number == seg
	return info, recs, spot, right
}

// slowCheck is what is wrong with some files.
func slowCheck(f files) []api.Finding {
	var list []api.Finding
	add := func(kind int, name string, at int) { list = append(list, foundAt(kind, name, at)) }
	c, readable := slowCatalogue(f)
	if !readable {
		add(api.FkCatalogue, "catalog", 0)
	}
	var known []int
	if slices.ContainsFunc(f.names(), func(name string) bool { return isOf(name, 0) }) {
		known = append(known, 0)
	}
	for _, t := range c.Topics {
		known = append(known, t.Id)
	}
	slices.Sort(known)
	for _, id := range known {
		m, ok := slowManifest(f, id)
		if !ok {
			add(api.FkManifest, manName(id), 0)
			continue
		}
		var ahead []int64
		for i := range m.Segs {
			ahead = append(ahead, slowSegment(f, m, i, ahead, add)...)
		}
	}
	for _, id := range known {
		m, ok := slowManifest(f, id)
		for _, name := range f.names() {
			if ok && isOf(name, id) && slowOrphan(slowParse(name), m) {
				add(api.FkOrphan, name, 0)
			}
		}
	}
	for _, name := range f.names() {
		n := slowParse(name)
		named := slices.ContainsFunc(c.Topics, func(t api.TopicEntry) bool { return t.Id == n.Id })
		if readable && (n.Id > 0 && !named || name == "catalog.tmp") {
			add(api.FkStranger, name, 0)
		}
	}
	for _, name := range f.names() {
		if slowParse(name).Kind == api.NOther {
			add(api.FkOther, name, 0)
		}
	}
	return list
}

func slowOrphan(n api.FileName, m api.Manifest) bool {
	last := m.Segs[len(m.Segs)-1]
	switch {
	case n.Tmp:
		return true
	case n.Kind == api.NManifest:
		return false
	}
	return !slices.Contains(m.Segs, n.Seg) || n.Kind == api.NHint && n.Seg == last
}

// slowSegment tells what is wrong with one of a manifest's segments, and answers its offsets.
func slowSegment(f files, m api.Manifest, i int, ahead []int64, add func(int, string, int)) []int64 {
	seg, last := m.Segs[i], i == len(m.Segs)-1
	name := segName(m.Id, seg)
	info, recs, spot, right := slowLook(f, m.Id, seg)
	if !right {
		add(api.FkSegment, name, 0)
		return nil
	}
	if spot.Err != api.OK {
		add(api.FkTorn, name, spot.At)
	}
	if !last && !info.Sealed {
		add(api.FkOpen, name, 0)
	}
	var offsets []int64
	for _, r := range recs {
		offsets = append(offsets, r.Rec.Offset)
	}
	if len(recs) > 0 && slices.ContainsFunc(ahead, func(off int64) bool { return off >= offsets[0] }) {
		add(api.FkOrder, name, recs[0].Pos)
	}
	if !last && info.Sealed && len(recs) > 0 && offsets[len(recs)-1] >= m.Next {
		add(api.FkNext, name, 0)
	}
	b, there := f[hintName(m.Id, seg)]
	h, e := hint.Decode([]byte(b))
	if there && !last && (e != api.OK || fmt.Sprint(h) != fmt.Sprint(hint.Of(seg, info.Size, recs))) {
		add(api.FkHint, hintName(m.Id, seg), 0)
	}
	return offsets
}

// slowSalvage is what can be saved of some files.
func slowSalvage(f files) []api.Saved {
	c, _ := slowCatalogue(f)
	var ids []int
	for _, name := range f.names() {
		if n := slowParse(name); n.Kind == api.NSegment && !n.Tmp && !slices.Contains(ids, n.Id) {
			ids = append(ids, n.Id)
		}
	}
	slices.Sort(ids)
	var list []api.Saved
	for _, id := range ids {
		s := api.Saved{Id: id}
		for _, t := range c.Topics {
			if t.Id == id {
				s.Name = t.Name
			}
		}
		for _, r := range slowMet(f, id) {
			if !slices.ContainsFunc(s.Records, func(o api.Record) bool { return o.Offset == r.Offset }) {
				s.Records = append(s.Records, r)
			}
		}
		slices.SortFunc(s.Records, func(a, b api.Record) int { return int(a.Offset - b.Offset) })
		list = append(list, s)
	}
	return list
}

// slowMet is all records of a number in the order in which they are met.
func slowMet(f files, id int) []api.Record {
	m, _ := slowManifest(f, id)
	var segs, others []int
	for _, seg := range m.Segs {
		if _, there := f[segName(id, seg)]; there {
			segs = append(segs, seg)
		}
	}
	for _, name := range f.names() {
		if n := slowParse(name); n.Kind == api.NSegment && !n.Tmp && n.Id == id && !slices.Contains(segs, n.Seg) {
			others = append(others, n.Seg)
		}
	}
	slices.Sort(others)
	segs = append(segs, others...)
	var met []api.Record
	for _, seg := range segs {
		if _, recs, _, right := slowLook(f, id, seg); right {
			for _, r := range recs {
				met = append(met, r.Rec)
			}
		}
	}
	for _, seg := range segs {
		b := f[segName(id, seg)]
		if info, _, _, right := slowLook(f, id, seg); right {
			b = b[info.Size:]
		}
		for _, r := range record.Salvage([]byte(b)) {
			met = append(met, r.Rec)
		}
	}
	return met
}

// slowRebuild is the files of a store that is made anew, how many operations that takes, and what is answered.
func slowRebuild(f files, cfg api.Config) (files, int, api.Errno) {
	c, readable := slowCatalogue(f)
	records := map[int][]api.Record{}
	var ids []int
	for _, t := range c.Topics {
		ids = append(ids, t.Id)
	}
	for _, s := range slowSalvage(f) {
		records[s.Id] = s.Records
		if !slices.Contains(ids, s.Id) {
			ids = append(ids, s.Id)
		}
	}
	slices.Sort(ids)
	again := api.Catalogue{NextId: 1}
	if readable {
		again.NextId = c.NextId
	}
	made, ops := files{}, 0
	for _, id := range ids {
		again.NextId = max(again.NextId, id+1)
		if len(again.Topics) == 16 {
			continue
		}
		limit := 65536
		if id > 0 {
			t := slowEntry(c, again, id, cfg)
			limit = t.Limit
			again.Topics = append(again.Topics, t)
		}
		old, had := slowManifest(f, id)
		topic, n, e := slowTopic(id, limit, records[id], old, had)
		made, ops = made.and(topic), ops+n
		if e != api.OK {
			return made, ops, e
		}
	}
	slices.SortFunc(again.Topics, func(a, b api.TopicEntry) int { return strings.Compare(a.Name, b.Name) })
	made["catalog"] = catalogue(again.NextId, again.Topics...)
	return made, ops + 6, api.OK
}

func slowEntry(c, again api.Catalogue, id int, cfg api.Config) api.TopicEntry {
	for _, t := range c.Topics {
		if t.Id == id {
			return t
		}
	}
	name := fmt.Sprint("lost-", id)
	all := append(slices.Clone(c.Topics), again.Topics...)
	for i := 1; slices.ContainsFunc(all, func(t api.TopicEntry) bool { return t.Name == name }); i++ {
		name = fmt.Sprint("lost-", id, "-", i)
	}
	return api.TopicEntry{Id: id, Name: name, Limit: cfg.Limit, Horizon: cfg.Horizon}
}

// slowTopic is the files of one topic, and the operations.
func slowTopic(id, limit int, recs []api.Record, old api.Manifest, had bool) (files, int, api.Errno) {
	shelves := []shelf{{number: 1}}
	if len(recs) > 0 {
		shelves[0].base = recs[0].Offset
	}
	for _, r := range recs {
		last := &shelves[len(shelves)-1]
		if len(last.recs) > 0 && last.size()+record.Size(r)+17 > limit {
			last.sealed = true
			shelves = append(shelves, shelf{number: last.number + 1, base: r.Offset})
			last = &shelves[len(shelves)-1]
		}
		last.recs = append(last.recs, r)
	}
	f, ops := files{}, len(recs)
	m := api.Manifest{Id: id, NextSeg: len(shelves) + 1, Next: old.Next, Clock: old.Clock}
	for _, s := range shelves {
		m.Segs = append(m.Segs, s.number)
		f[segName(id, s.number)] = s.bytes(id)
		ops += 3 // the file, its head, a sync
		if s.sealed {
			f[hintName(id, s.number)] = s.hint()
			ops += 2 + 3 // its tail, a sync; the hint's file, its bytes, a sync
		}
	}
	for _, r := range recs {
		m.Next, m.Clock = max(m.Next, r.Offset+1), max(m.Clock, r.Time)
	}
	m.Mark = m.Next
	if had {
		m.Mark = old.Mark
	}
	m.Prods = slowProds(old.Prods, recs)
	if len(m.Segs) > 64 {
		return f, ops + 1, api.ErrManifest
	}
	f[manName(id)] = manOf(m)
	return f, ops + 1 + 5, api.OK // a sync of the last segment
}

// slowProds is a producer's greatest number, asked of all that tell one.
func slowProds(old []api.Prod, recs []api.Record) []api.Prod {
	told := slices.Clone(old)
	for _, r := range recs {
		if r.Pid > 0 {
			told = append(told, api.Prod{Pid: r.Pid, Seq: r.Seq, Off: r.Offset})
		}
	}
	var list []api.Prod
	for _, p := range told {
		if slices.ContainsFunc(list, func(o api.Prod) bool { return o.Pid == p.Pid }) {
			continue
		}
		for _, o := range told { // the first that tells the greatest one
			if o.Pid == p.Pid && o.Seq > p.Seq {
				p = o
			}
		}
		list = append(list, p)
	}
	slices.SortFunc(list, func(a, b api.Prod) int { return int(a.Pid - b.Pid) })
	return list[:min(64, len(list))]
}

// wantAsSlow fails unless all calls answer of some files as the slow ones do. It tells what was found, and what was made.
func wantAsSlow(t *testing.T, what string, f files, cfg api.Config) ([]api.Finding, files, api.Errno) {
	t.Helper()
	d := holding(t, f)
	findings := slowCheck(f)
	wantList(t, what+": Check", checked(t, what, d), findings)
	wantSaved(t, what, salvaged(t, what, d), slowSalvage(f))
	made, ops, e := slowRebuild(f, cfg)
	to := holding(t, nil)
	looking(t, what+": Rebuild", d, func() {
		list, errno := fsck.Rebuild(d, to, cfg)
		want(t, what+": Rebuild", errno, e)
		if e != api.OK {
			wantList(t, what+": Rebuild's findings", list, nil)
		} else {
			wantList(t, what+": Rebuild's findings", list, findings)
		}
	})
	wantFiles(t, what+": made", to.Image(), made)
	want(t, what+": operations", to.Ops(), ops)
	if e == api.OK {
		wantFiles(t, what+": durable", to.Crash(nil), made)
	}
	return findings, made, e
}
