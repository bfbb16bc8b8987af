package catalog_test

import (
	"slices"
	"strings"
	"testing"

	"chronicle/api"
	"chronicle/catalog"
	"chronicle/manifest"
	"chronicle/simfs"
	"chronicle/topic"
)

// slow is a catalog as the chapter tells it, in plain steps on the layers below.
type slow struct {
	disk *simfs.Disk
	cfg  api.Config
	next int
	all  []held // in the order in which they came
}

type held struct {
	api.TopicEntry
	log *topic.Topic
}

func within(n, least, most int64) bool { return least <= n && n <= most }

func slowConfig(cfg api.Config) bool {
	return within(int64(cfg.Limit), 256, 65536) && within(cfg.Horizon, 0, horizons)
}

func slowFormat(d *simfs.Disk, cfg api.Config) (*slow, api.Errno) {
	if d == nil {
		return nil, api.ErrNil
	}
	if !slowConfig(cfg) {
		return nil, api.ErrConfig
	}
	names, e := d.List()
	if e != api.OK {
		return nil, e
	}
	if slices.Contains(names, "catalog") {
		return nil, api.ErrExists
	}
	if e := manifest.SaveCatalogue(d, api.Catalogue{NextId: 1}); e != api.OK {
		return nil, e
	}
	return &slow{disk: d, cfg: cfg, next: 1}, api.OK
}

func slowOpen(d *simfs.Disk, cfg api.Config, now int64) (*slow, api.Errno) {
	if d == nil {
		return nil, api.ErrNil
	}
	if !slowConfig(cfg) {
		return nil, api.ErrConfig
	}
	if !within(now, 0, lastTime) {
		return nil, api.ErrArg
	}
	said, e := manifest.LoadCatalogue(d)
	if e != api.OK {
		return nil, e
	}
	names, e := d.List()
	if e != api.OK {
		return nil, e
	}
	strangers := manifest.Strangers(names, said)
	for _, name := range strangers {
		if e := d.Remove(name); e != api.OK {
			return nil, e
		}
	}
	if len(strangers) > 0 {
		if e := d.SyncDir(); e != api.OK {
			return nil, e
		}
	}
	s := &slow{disk: d, cfg: cfg, next: said.NextId}
	for len(said.Topics) > 0 {
		first := 0
		for i, entry := range said.Topics {
			if entry.Id < said.Topics[first].Id {
				first = i
			}
		}
		entry := said.Topics[first]
		log, e := topic.Open(d, entry.Id, entry.Limit, entry.Horizon, now)
		if e != api.OK {
			return nil, e
		}
		s.all = append(s.all, held{entry, log})
		said.Topics = slices.Delete(said.Topics, first, first+1)
	}
	return s, api.OK
}

// find is the place of a name; -1, if there is none.
func (s *slow) find(name string) int {
	return slices.IndexFunc(s.all, func(h held) bool { return h.Name == name })
}

// save saves the catalogue with these topics.
func (s *slow) save(next int, all []held) api.Errno {
	said := api.Catalogue{NextId: next}
	for _, h := range sortedHeld(all) {
		said.Topics = append(said.Topics, h.TopicEntry)
	}
	return manifest.SaveCatalogue(s.disk, said)
}

// sortedHeld is topics by rising names.
func sortedHeld(all []held) []held {
	return slices.SortedFunc(slices.Values(all), func(a, b held) int { return strings.Compare(a.Name, b.Name) })
}

// clear takes the files of a number away, till the disk does not let it.
func (s *slow) clear(id int) {
	names, _ := s.disk.List()
	for _, name := range names {
		if isOf(name, id) {
			s.disk.Remove(name)
		}
	}
}

func (s *slow) create(name string, horizon, now int64) (int, api.Errno) {
	if e := manifest.CheckName(name); e != api.OK {
		return 0, e
	}
	if s.find(name) >= 0 {
		return 0, api.ErrTopicExists
	}
	if len(s.all) == 16 || s.next == lastId+1 {
		return 0, api.ErrTopics
	}
	if !within(horizon, 0, horizons) {
		return 0, api.ErrConfig
	}
	if !within(now, 0, lastTime) {
		return 0, api.ErrArg
	}
	if horizon == 0 {
		horizon = s.cfg.Horizon
	}
	id := s.next
	entry := api.TopicEntry{Id: id, Name: name, Limit: s.cfg.Limit, Horizon: horizon}
	log, e := topic.Create(s.disk, id, entry.Limit, entry.Horizon, now)
	if e == api.OK {
		e = s.save(id+1, append(slices.Clone(s.all), held{entry, log}))
	}
	if e != api.OK {
		s.clear(id)
		return 0, e
	}
	s.next++
	s.all = append(s.all, held{entry, log})
	return id, api.OK
}

func (s *slow) drop(name string) api.Errno {
	i := s.find(name)
	if i < 0 {
		return api.ErrNoTopic
	}
	gone := s.all[i]
	rest := slices.Delete(slices.Clone(s.all), i, i+1)
	if e := s.save(s.next, rest); e != api.OK {
		return e
	}
	s.all = rest
	gone.log.Drop()
	s.clear(gone.Id)
	s.disk.SyncDir()
	if s.disk.Dead() {
		return api.ErrDead
	}
	return api.OK
}

func (s *slow) list() []api.TopicInfo {
	var list []api.TopicInfo
	for _, h := range sortedHeld(s.all) {
		state := h.log.State()
		list = append(list, api.TopicInfo{Name: h.Name, Id: h.Id, Next: state.Committed, Segs: state.Segs, Live: state.Live})
	}
	return list
}

func (s *slow) entries() []api.TopicEntry {
	var list []api.TopicEntry
	for _, h := range sortedHeld(s.all) {
		list = append(list, h.TopicEntry)
	}
	return list
}

// twins is a catalog and a slow one, which have been opened over the same files, each on a disk of its own.
type twins struct {
	c *catalog.Catalog
	d *simfs.Disk
	s *slow
}

func twinsOver(t *testing.T, f files, cfg api.Config) twins {
	t.Helper()
	d, other := holding(t, f), holding(t, f)
	c, e := catalog.Open(d, cfg, 0)
	s, e2 := slowOpen(other, cfg, 0)
	if c == nil || s == nil || e != api.OK || e2 != api.OK {
		t.Fatalf("Open: %v, %d; slowly %v, %d", c, e, s, e2)
	}
	w := twins{c, d, s}
	w.same(t, "opened")
	return w
}

// disks does the same to both disks.
func (w twins) disks(do func(*simfs.Disk)) {
	do(w.d)
	do(w.s.disk)
}

// topics does the same to both topics of a name.
func (w twins) topics(t *testing.T, name string, do func(*topic.Topic)) {
	t.Helper()
	do(of(t, w.c, name))
	do(w.s.all[w.s.find(name)].log)
}

// create creates a topic in both, and tells the answer.
func (w twins) create(t *testing.T, what, name string, horizon, now int64) (int, api.Errno) {
	t.Helper()
	id, e := w.s.create(name, horizon, now)
	wantCreate(t, what, w.c, name, horizon, now, id, e)
	w.same(t, what)
	return id, e
}

// drop drops a topic in both, and tells the answer.
func (w twins) drop(t *testing.T, what, name string) api.Errno {
	t.Helper()
	e := w.s.drop(name)
	want(t, what+": Drop of "+name, w.c.Drop(name), e)
	w.same(t, what)
	return e
}

// same fails unless both have the same topics, and the same lies on their disks.
func (w twins) same(t *testing.T, what string) {
	t.Helper()
	alike(t, what, w.d, w.s.disk)
	wantTopics(t, what, w.c, w.s.entries()...)
	wantList(t, what+": List", w.c.List(), w.s.list())
}
