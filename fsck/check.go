package fsck

import (
	"slices"

	"chronicle/api"
	"chronicle/hint"
	"chronicle/manifest"
	"chronicle/simfs"
)

// teller is told what is wrong: its kind, the file, the place.
type teller func(kind int, file string, at int)

// Check tells what is wrong. It only reads.
func Check(d *simfs.Disk) ([]api.Finding, api.Errno) {
	s, e := load(d)
	if e != api.OK {
		return nil, e
	}
	return s.findings(), api.OK
}

// findings is all that is wrong, in order.
func (s store) findings() []api.Finding {
	var list []api.Finding
	s.check(func(kind int, file string, at int) {
		list = append(list, api.Finding{Kind: kind, File: file, At: at})
	})
	return list
}

// check looks at all that lies on the disk.
func (s store) check(tell teller) {
	if !s.readable {
		tell(api.FkCatalogue, manifest.Name(api.FileName{Kind: api.NCatalogue}), 0)
	}
	topics := s.checkTopics(tell)
	for _, m := range topics {
		tellAll(api.FkOrphan, manifest.Orphans(s.names, m), tell)
	}
	if s.readable {
		tellAll(api.FkStranger, manifest.Strangers(s.names, s.catalogue), tell)
	}
	isKnown := func(name string) bool { return manifest.Parse(name).Kind != api.NOther }
	tellAll(api.FkOther, slices.DeleteFunc(slices.Clone(s.names), isKnown), tell)
}

// tellAll tells the same of several files.
func tellAll(kind int, names []string, tell teller) {
	for _, name := range names {
		tell(kind, name, 0)
	}
}

// checkTopics looks at the topics whose numbers are known, and tells the manifests of those that have one.
func (s store) checkTopics(tell teller) []api.Manifest {
	var list []api.Manifest
	for _, id := range s.known() {
		m, e := manifest.Load(s.disk, id)
		if e != api.OK {
			tell(api.FkManifest, manifest.Name(api.FileName{Kind: api.NManifest, Id: id}), 0)
			continue
		}
		s.checkSegments(m, tell)
		list = append(list, m)
	}
	return list
}

// known is the numbers of the topics that ought to be there, rising.
func (s store) known() []int {
	var ids []int
	if slices.ContainsFunc(s.names, isOfGroups) {
		ids = append(ids, groupsId)
	}
	for _, t := range s.catalogue.Topics {
		ids = append(ids, t.Id)
	}
	slices.Sort(ids)
	return ids
}

// isOfGroups tells whether a file is of the groups' own topic. The catalogue, and what is of no store, has no number: that is told as 0 too.
func isOfGroups(name string) bool {
	n := manifest.Parse(name)
	return n.Id == groupsId && n.Kind != api.NCatalogue && n.Kind != api.NOther
}

// checkSegments looks at the segments that a manifest names, one behind the other.
func (s store) checkSegments(m api.Manifest, tell teller) {
	top := int64(-1) // the greatest offset up to here
	for i, seg := range m.Segs {
		f := s.look(m.Id, seg)
		if !f.hasHead() {
			tell(api.FkSegment, f.name(), 0)
			continue
		}
		isLast := i == len(m.Segs)-1
		f.checkEnd(isLast, tell)
		top = f.checkOrder(top, tell)
		if !isLast {
			f.checkNext(m.Next, tell)
			s.checkHint(f, tell)
		}
	}
}

// checkEnd looks at how far a segment is right, and whether it is sealed, if it has to be.
func (f file) checkEnd(isLast bool, tell teller) {
	if f.spot.Err != api.OK {
		tell(api.FkTorn, f.name(), f.spot.At)
	}
	if !isLast && !f.info.Sealed {
		tell(api.FkOpen, f.name(), 0)
	}
}

// checkOrder looks whether a segment's offsets are above those ahead of it, and tells the greatest of all of them.
func (f file) checkOrder(top int64, tell teller) int64 {
	if len(f.recs) == 0 {
		return top
	}
	if f.recs[0].Rec.Offset <= top {
		tell(api.FkOrder, f.name(), f.recs[0].Pos)
	}
	return max(top, f.info.Last)
}

// checkNext looks whether the manifest's Next is above a sealed segment's offsets.
func (f file) checkNext(next int64, tell teller) {
	if f.info.Sealed && f.info.Count > 0 && f.info.Last >= next {
		tell(api.FkNext, f.name(), 0)
	}
}

// checkHint looks whether a segment's hint, if there is one, says what the segment does.
func (s store) checkHint(f file, tell teller) {
	name := hint.Name(f.topic, f.number)
	b, there := s.read(name)
	if !there {
		return
	}
	h, e := hint.Decode(b)
	if e != api.OK || !sameHint(h, hint.Of(f.number, f.info.Size, f.recs)) {
		tell(api.FkHint, name, 0)
	}
}

func sameHint(a, b api.Hint) bool {
	return a.Seg == b.Seg && a.Size == b.Size && slices.Equal(a.Entries, b.Entries)
}
