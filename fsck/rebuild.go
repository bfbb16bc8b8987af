package fsck

import (
	"maps"
	"slices"
	"strconv"
	"strings"

	"chronicle/api"
	"chronicle/manifest"
	"chronicle/simfs"
)

// Rebuild makes a new store on an empty disk out of what could be saved.
func Rebuild(from, to *simfs.Disk, cfg api.Config) ([]api.Finding, api.Errno) {
	if from == nil || to == nil {
		return nil, api.ErrNil
	}
	if !mayBe(cfg) {
		return nil, api.ErrConfig
	}
	s, e := load(from)
	if e != api.OK {
		return nil, e
	}
	names, e := to.List()
	if e != api.OK {
		return nil, e
	}
	if len(names) > 0 {
		return nil, api.ErrExists
	}
	findings := s.findings()
	if e := s.rebuild(to, cfg); e != api.OK {
		return nil, e
	}
	return findings, api.OK
}

// mayBe tells whether topics may be made so.
func mayBe(cfg api.Config) bool {
	return api.MinSeg <= cfg.Limit && cfg.Limit <= api.MaxSeg && 0 <= cfg.Horizon && cfg.Horizon <= api.MaxHorizon
}

// rebuild lays what can be saved on another disk. The catalogue comes last: without it there is no store.
func (s store) rebuild(to *simfs.Disk, cfg api.Config) api.Errno {
	records := s.numbers()
	ids := slices.Sorted(maps.Keys(records))
	c := api.Catalogue{NextId: s.nextId(ids)}
	for _, id := range kept(ids) {
		entry := s.newEntry(id, cfg)
		if e := s.lotOf(entry, records[id]).lay(to); e != api.OK {
			return e
		}
		if id != groupsId {
			c.Topics = append(c.Topics, entry)
		}
	}
	slices.SortFunc(c.Topics, func(a, b api.TopicEntry) int { return strings.Compare(a.Name, b.Name) })
	if e := to.SyncDir(); e != api.OK {
		return e
	}
	return manifest.SaveCatalogue(to, c)
}

// numbers is all numbers that were saved, or that the catalogue has, with the records of each.
func (s store) numbers() map[int][]api.Record {
	records := map[int][]api.Record{}
	for _, t := range s.catalogue.Topics {
		records[t.Id] = nil
	}
	for _, t := range s.saved() {
		records[t.Id] = t.Records
	}
	return records
}

// kept is the lowest of these rising numbers, as many as a store may have. The groups' own topic is not counted.
func kept(ids []int) []int {
	most := api.MaxTopics
	if len(ids) > 0 && ids[0] == groupsId {
		most++
	}
	return ids[:min(len(ids), most)]
}

// nextId is a number that no topic has had, above all of these rising ones.
func (s store) nextId(ids []int) int {
	next := max(s.catalogue.NextId, 1)
	if len(ids) == 0 {
		return next
	}
	return max(next, ids[len(ids)-1]+1)
}

// newEntry is what the new catalogue is to say of a number. The groups' own topic does not stand there: of it the limit alone counts.
func (s store) newEntry(id int, cfg api.Config) api.TopicEntry {
	if id == groupsId {
		return api.TopicEntry{Limit: api.MaxSeg}
	}
	entry, there := s.entry(id)
	if !there {
		return api.TopicEntry{Id: id, Name: s.freeName(id), Limit: cfg.Limit, Horizon: cfg.Horizon}
	}
	return entry
}

// freeName is a name for a number that has none. Another number is never given the same one: so the catalogue alone is asked.
func (s store) freeName(id int) string {
	lost := "lost-" + strconv.Itoa(id)
	name := lost
	for i := 1; s.hasName(name); i++ {
		name = lost + "-" + strconv.Itoa(i)
	}
	return name
}

// hasName tells whether a topic of the catalogue has a name.
func (s store) hasName(name string) bool {
	return slices.ContainsFunc(s.catalogue.Topics, func(t api.TopicEntry) bool { return t.Name == name })
}
