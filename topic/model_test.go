package topic_test

import (
	"cmp"
	"maps"
	"slices"
	"strings"

	"chronicle/api"
	"chronicle/record"
)

// world is a disk with topics on it, as it should be.
type world struct {
	quota  int
	topics []*model
}

func (w *world) files() files {
	f := files{}
	for _, m := range w.topics {
		maps.Copy(f, m.files())
	}
	return f
}

// room is how many bytes more the disk takes.
func (w *world) room() int {
	n := w.quota
	for _, b := range w.files() {
		n -= len(b)
	}
	return n
}

// model is a topic as the chapter tells it: slow, with the whole log, and with each byte of its files.
type model struct {
	w       *world
	id      int
	limit   int
	horizon int64
	clock   int64
	log     []api.Record // all that were accepted
	end     int          // how many of them are committed
	man     api.Manifest
	next    int
	shelves map[int]*shelf   // all files of segments that there are
	hints   map[int]struct{} // the numbers of those that have hints
	told    map[int]struct{}
	loose   bool // names may wait for a sync of the directory
}

// create is a topic that has just been created.
func (w *world) create(id, limit int, horizon, now int64) *model {
	m := &model{w: w, id: id, limit: limit, horizon: horizon, clock: now, next: 1,
		shelves: map[int]*shelf{}, hints: map[int]struct{}{}, told: map[int]struct{}{}}
	m.man.Id = id
	w.topics = append(w.topics, m)
	m.begin()
	return m
}

func (m *model) files() files {
	f := files{}
	for n, s := range m.shelves {
		f[segName(m.id, n)] = s.bytes(m.id)
		if _, ok := m.hints[n]; ok {
			f[hintName(m.id, n)] = s.hint()
		}
	}
	if m.man.Segs != nil {
		f[manName(m.id)] = manOf(m.man)
	}
	return f
}

// durable is what of its files is left, if the power goes now and nothing that waits for a sync is left.
func (m *model) durable() files {
	last := *m.last()
	last.recs = last.recs[:len(last.recs)-(len(m.log)-m.end)]
	return m.files().with(segName(m.id, last.number), last.bytes(m.id))
}

func (m *model) sealed() []int { return m.man.Segs[:len(m.man.Segs)-1] }

func (m *model) last() *shelf { return m.shelves[m.man.Segs[len(m.man.Segs)-1]] }

// save makes a manifest anew.
func (m *model) save(change func(*api.Manifest)) api.Errno {
	man := m.man
	man.Segs = slices.Clone(man.Segs)
	man.NextSeg, man.Next, man.Clock, man.Prods = m.next, int64(m.end), m.clock, m.prods()
	change(&man)
	if m.w.room() < len(manOf(man)) {
		return api.ErrSpace
	}
	m.man = man
	m.loose = false
	return api.OK
}

// prods is the last number of each producer in the committed log.
func (m *model) prods() []api.Prod {
	last := map[int64]api.Prod{}
	for _, r := range m.log[:m.end] {
		if r.Pid > 0 {
			last[r.Pid] = api.Prod{Pid: r.Pid, Seq: r.Seq, Off: r.Offset}
		}
	}
	return slices.SortedFunc(maps.Values(last), func(a, b api.Prod) int { return cmp.Compare(a.Pid, b.Pid) })
}

// judge is what is said of a producer's number that may be: the offset that it got, and whether it is the last one once more.
func (m *model) judge(pid, seq int64) (int64, bool, api.Errno) {
	others := map[int64]int{}
	last := api.Record{}
	for _, r := range m.log {
		switch r.Pid {
		case 0:
		case pid:
			last = r
		default:
			others[r.Pid]++
		}
	}
	switch {
	case pid == 0:
		return 0, false, api.OK
	case seq == last.Seq:
		return last.Offset, true, api.OK
	case seq < last.Seq:
		return 0, false, api.ErrStale
	case seq > last.Seq+1:
		return 0, false, api.ErrSeq
	case last.Seq == 0 && len(others) == 64:
		return 0, false, api.ErrProds
	}
	return 0, false, api.OK
}

func (m *model) append(now int64, w api.Write) (int64, bool, api.Errno) {
	if now < 0 || now > lastTime {
		return 0, false, api.ErrArg
	}
	m.clock = max(m.clock, now)
	r := api.Record{Kind: 1, Offset: int64(len(m.log)), Time: m.clock, Pid: w.Pid, Seq: w.Seq, Key: w.Key, Value: w.Value}
	if w.Tombstone {
		r.Kind = 2
	}
	if e := record.Check(r); e != api.OK {
		return 0, false, e
	}
	if off, again, e := m.judge(w.Pid, w.Seq); again || e != api.OK {
		return off, again, e
	}
	size := record.Size(r)
	if m.w.room()-size < 4096 {
		return 0, false, api.ErrSpace
	}
	if s := m.last(); s.sealed || len(s.recs) > 0 && 21+sizes(s.recs)+size+17 > m.limit {
		if e := m.reallyRoll(); e != api.OK {
			return 0, false, e
		}
	}
	m.log = append(m.log, r)
	s := m.last()
	s.recs = append(s.recs, r)
	return r.Offset, false, api.OK
}

func (m *model) commit() api.Errno {
	m.end = len(m.log)
	return api.OK
}

func (m *model) roll() api.Errno {
	if s := m.last(); len(s.recs) == 0 && !s.sealed {
		return api.OK
	}
	return m.reallyRoll()
}

func (m *model) reallyRoll() api.Errno {
	m.commit()
	if len(m.man.Segs) == 64 {
		if m.state().Dead == 0 {
			return api.ErrLive
		}
		return api.ErrSegs
	}
	s := m.last()
	if !s.sealed {
		if m.w.room() < 17 {
			return api.ErrSpace
		}
		s.sealed = true
	}
	if m.w.room()-len(s.hint()) >= 4096 {
		m.hints[s.number] = struct{}{}
		m.loose = true
	}
	return m.begin()
}

func (m *model) begin() api.Errno {
	n := m.next
	if n == 1<<30 {
		return api.ErrConfig
	}
	m.loose = true
	if m.w.room() < 21 {
		return api.ErrSpace
	}
	m.shelves[n] = &shelf{number: n, base: int64(m.end)}
	m.next++
	e := m.save(func(man *api.Manifest) { man.Segs = append(man.Segs, n) })
	if e != api.OK {
		delete(m.shelves, n)
	}
	return e
}

// left is the records that are left, by rising offsets.
func (m *model) left() []api.Record {
	var list []api.Record
	for _, n := range m.man.Segs {
		for _, r := range m.shelves[n].recs {
			if r.Offset < int64(m.end) {
				list = append(list, r)
			}
		}
	}
	return list
}

// entries is the entry of each key that has one.
func (m *model) entries() map[string]api.Record {
	last := map[string]api.Record{}
	for _, r := range m.left() {
		last[r.Key] = r
	}
	return last
}

// keeps tells whether a record is needed, if these are the entries.
func (m *model) keeps(entries map[string]api.Record, now int64, r api.Record) bool {
	e, ok := entries[r.Key]
	return ok && e.Offset == r.Offset && (e.Kind == 1 || now < e.Time+m.horizon)
}

func (m *model) needed(now int64, r api.Record) bool { return m.keeps(m.entries(), now, r) }

// get is the record of a key that lives.
func (m *model) get(key string) api.Record {
	if e := m.entries()[key]; e.Kind == 1 {
		return e
	}
	return api.Record{}
}

func (m *model) from(offset int64, most, size int) ([]api.Record, int64, api.Errno) {
	if most < 1 || size < 1 {
		return nil, 0, api.ErrArg
	}
	if offset < 0 || offset > int64(m.end) {
		return nil, 0, api.ErrPos
	}
	var list []api.Record
	for _, r := range m.left() {
		if r.Offset < offset {
			continue
		}
		if len(list) > 0 && (len(list) == most || sizes(list)+record.Size(r) > size) {
			return list, list[len(list)-1].Offset + 1, api.OK
		}
		list = append(list, r)
	}
	return list, int64(m.end), api.OK
}

func (m *model) keys(lo, hi string, most int) ([]string, bool) {
	live := m.entries()
	maps.DeleteFunc(live, func(key string, r api.Record) bool {
		return r.Kind != 1 || strings.Compare(key, lo) < 0 || hi != "" && strings.Compare(key, hi) >= 0
	})
	all := slices.Sorted(maps.Keys(live))
	if most < 1 {
		return nil, false
	}
	return all[:min(most, len(all))], len(all) > most
}

func (m *model) state() api.TopicState {
	s := api.TopicState{Id: m.id, Next: int64(len(m.log)), Committed: int64(m.end), Mark: m.man.Mark, Clock: m.clock,
		Segs: len(m.man.Segs), Pending: len(m.log) - m.end}
	entries := m.entries()
	for _, r := range m.left() {
		if e := entries[r.Key]; e == r && e.Kind == 1 {
			s.Live++
		}
		if !m.keeps(entries, m.clock, r) {
			s.Dead++
		}
	}
	for _, n := range m.man.Segs {
		s.Bytes += int64(len(m.shelves[n].bytes(m.id)))
	}
	return s
}

func (m *model) stats() []api.SegStat {
	var list []api.SegStat
	entries := m.entries()
	for _, n := range m.sealed() {
		s := api.SegStat{Number: n}
		for _, r := range m.shelves[n].recs {
			s.Count++
			s.Bytes += record.Size(r)
			if m.keeps(entries, m.clock, r) {
				s.Live++
				s.LiveBytes += record.Size(r)
			}
		}
		list = append(list, s)
	}
	return list
}

func (m *model) newSeg() (int, api.Errno) {
	if m.next == 1<<30 {
		return 0, api.ErrConfig
	}
	m.told[m.next] = struct{}{}
	m.next++
	return m.next - 1, api.OK
}

func (m *model) install(olds, news []int, mark int64) api.Errno {
	if len(olds) == 0 || len(olds) > len(m.sealed()) || !slices.Equal(olds, m.sealed()[:len(olds)]) {
		return api.ErrArg
	}
	for i, n := range news {
		if _, ok := m.told[n]; !ok || slices.Contains(news[:i], n) {
			return api.ErrArg
		}
	}
	if mark < 0 || mark > int64(m.end) {
		return api.ErrArg
	}
	if len(m.man.Segs)-len(olds)+len(news) > 64 {
		return api.ErrSegs
	}
	there := map[int64]string{}
	for _, n := range olds {
		for _, r := range m.shelves[n].recs {
			there[r.Offset] = r.Key
		}
	}
	ahead := int64(-1)
	for _, n := range news {
		s := m.shelves[n]
		if s == nil || !s.sealed {
			return api.ErrTopic
		}
		for _, r := range s.recs {
			if r.Offset <= ahead || there[r.Offset] != r.Key {
				return api.ErrTopic
			}
			ahead = r.Offset
		}
	}
	e := m.save(func(man *api.Manifest) {
		man.Segs = append(slices.Clone(news), man.Segs[len(olds):]...)
		man.Mark = max(man.Mark, mark)
	})
	if e == api.OK {
		for _, n := range news {
			delete(m.told, n)
		}
	}
	return e
}

// reopen is what Open makes of it, if nothing is lost.
func (m *model) reopen(now int64) {
	m.commit()
	m.clock = max(now, m.man.Clock)
	for _, r := range m.last().recs {
		m.clock = max(m.clock, r.Time)
	}
	m.next = m.man.NextSeg
	clear(m.told)
	m.loose = false
	maps.DeleteFunc(m.shelves, func(n int, _ *shelf) bool { return !slices.Contains(m.man.Segs, n) })
	maps.DeleteFunc(m.hints, func(n int, _ struct{}) bool { return !slices.Contains(m.sealed(), n) })
	if m.last().sealed {
		m.reallyRoll()
	}
}
