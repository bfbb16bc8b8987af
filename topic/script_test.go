package topic_test

import (
	"fmt"
	"slices"
	"strings"
	"testing"

	"chronicle/api"
	"chronicle/hint"
	"chronicle/probe"
	"chronicle/simfs"
	"chronicle/topic"
)

// pair is a topic, and what it should be.
type pair struct {
	p *topic.Topic
	m *model
}

// stage is a disk with topics on it, and what it should be.
type stage struct {
	t     *testing.T
	d     *simfs.Disk
	w     *world
	pairs []*pair
	count map[string]int // what was answered how often
}

// staged is a stage with topics of these numbers.
func staged(t *testing.T, limit int, horizon int64, ids ...int) *stage {
	t.Helper()
	s := &stage{t: t, d: holding(t, nil), w: &world{quota: 1 << 24}, count: map[string]int{}}
	for _, id := range ids {
		p, e := topic.Create(s.d, id, limit, horizon, 5)
		if e != api.OK {
			t.Fatalf("Create: %d", e)
		}
		s.pairs = append(s.pairs, &pair{p, s.w.create(id, limit, horizon, 5)})
	}
	return s
}

// keysOf is keys of all kinds.
func keysOf() []string {
	return []string{"a", "b", "ab", "\x00", "\xff\xff", strings.Repeat("k", 64)}
}

// writeOf is a write that is often right.
func writeOf(m *model, x uint64) api.Write {
	w := api.Write{Key: keysOf()[x%6], Value: probe.Text(x, int(x>>8%40))}
	switch x >> 16 % 16 {
	case 0:
		w.Key = ""
	case 1:
		w.Value = strings.Repeat("yes", int(x>>24%342))
	case 2:
		w.Value = probe.Text(x, int(x>>24%1026))
	case 3, 4, 5, 6, 7:
		w.Value, w.Tombstone = "", true
	case 8:
		w.Tombstone = true // mostly with a value
	}
	if x>>32%2 == 0 {
		return w
	}
	w.Pid = int64(1 + x>>40%4)
	w.Seq = m.lastSeq(w.Pid) + 1
	switch x >> 36 % 12 {
	case 0, 1:
		w.Seq--
	case 2:
		w.Seq++
	case 3:
		w.Seq -= 2
	}
	return w
}

func (m *model) lastSeq(pid int64) int64 {
	seq := int64(0)
	for _, r := range m.log {
		if r.Pid == pid {
			seq = r.Seq
		}
	}
	return seq
}

// step does one thing to a topic and to its model.
func (s *stage) step(x uint64) {
	c := s.pairs[x%uint64(len(s.pairs))]
	x >>= 4
	switch x % 16 {
	case 0:
		s.setQuota(x >> 4)
	case 1:
		s.tell("Roll", c.p.Roll(), c.m.roll())
	case 2, 3:
		s.tell("Commit", c.p.Commit(), c.m.commit())
	case 4:
		s.merge(c, x>>4)
	case 5:
		s.reopen(c, int64(x>>4%30))
	case 6:
		now := int64(x>>4%60) - 1
		if now >= 0 {
			c.m.clock = max(c.m.clock, now)
		}
		want(s.t, "Tick", c.p.Tick(now), c.m.clock)
	case 7:
		n, e := c.m.newSeg()
		got, e2 := c.p.NewSeg()
		want(s.t, "NewSeg", got, n)
		s.tell("NewSeg", e2, e)
	default:
		s.append(c, x>>4)
	}
}

// tell fails unless an answer is the model's.
func (s *stage) tell(what string, got, wanted api.Errno) {
	s.t.Helper()
	want(s.t, what, got, wanted)
	s.count[fmt.Sprint(what, " ", wanted)]++
}

func (s *stage) append(c *pair, x uint64) {
	now, w := int64(x>>20%50)-1, writeOf(c.m, x)
	off, again, e := c.m.append(now, w)
	wantAppend(s.t, fmt.Sprintf("%v", w), c.p, now, w, off, again, e)
	s.count[fmt.Sprint("Append ", again, " ", e)]++
}

func (s *stage) setQuota(x uint64) {
	used := s.w.quota - s.w.room()
	s.w.quota = 1 << 20
	if x%2 > 0 {
		s.w.quota = used + []int{0, 20, 60, 200, 4096, 4140, 4300, 5000}[x>>4%8] + int(x>>8%60)
	}
	want(s.t, "SetQuota", s.d.SetQuota(s.w.quota), api.OK)
}

// reopen opens the topic over what the disk holds.
func (s *stage) reopen(c *pair, now int64) {
	p, e := topic.Open(s.d, c.m.id, c.m.limit, c.m.horizon, now)
	if p == nil || e != api.OK {
		s.t.Fatalf("Open: %v, %d", p, e)
	}
	c.p = p
	c.m.reopen(now)
	s.count["Open"]++
}

// merge lays some of the records of the first sealed segments into new ones, and puts these in their place.
func (s *stage) merge(c *pair, x uint64) {
	sealed := c.m.sealed()
	if len(sealed) == 0 || s.w.room() < 1<<16 {
		return
	}
	want(s.t, "Hold", c.p.Hold(), api.OK)
	olds := slices.Clone(sealed[:1+x%uint64(len(sealed))])
	kept := s.kept(c, olds, x>>8)
	var news []int
	for i := 0; i < len(kept) || len(news) < int(x>>16%2); {
		n, e := c.p.NewSeg()
		want(s.t, "NewSeg", e, api.OK)
		c.m.newSeg()
		end := min(len(kept), i+1+int(x>>20%5))
		s.build(c, shelf{n, 0, kept[i:end], true}, x>>24%2 == 0)
		i, news = end, append(news, n)
	}
	mark := int64(x >> 32 % uint64(c.m.end+1))
	want(s.t, "another Hold", c.p.Hold(), api.ErrMerging)
	s.tell("Install", c.p.Install(olds, news, mark), c.m.install(olds, news, mark))
	c.p.Release()
	if x>>40%2 == 0 {
		s.remove(c, olds)
	}
}

// kept is some of the records of segments: those that are needed, or any.
func (s *stage) kept(c *pair, olds []int, x uint64) []api.Record {
	var list []api.Record
	for _, n := range olds {
		for _, r := range c.m.shelves[n].recs {
			if x%4 > 0 && c.m.needed(c.m.clock, r) || x%4 == 0 && probe.Noise(x+uint64(r.Offset), 1)[0]>>9%2 == 0 {
				list = append(list, r)
			}
		}
	}
	return list
}

// build makes a segment on the disk and in the model, as a merge does it.
func (s *stage) build(c *pair, b shelf, hinted bool) {
	name := segName(c.m.id, b.number)
	s.d.Create(name)
	s.d.Append(name, []byte(b.bytes(c.m.id)))
	s.d.Sync(name)
	c.m.shelves[b.number] = &b
	if hinted {
		want(s.t, "hint.Write", hint.Write(s.d, c.m.id, hint.Of(b.number, 38+sizes(b.recs), placed(b.recs))), api.OK)
		c.m.hints[b.number] = struct{}{}
	}
	c.m.loose = true
}

// remove takes old segments away, as a merge does it.
func (s *stage) remove(c *pair, olds []int) {
	for _, n := range olds {
		if _, ok := c.m.hints[n]; ok {
			s.d.Remove(hintName(c.m.id, n))
		}
		s.d.Remove(segName(c.m.id, n))
		delete(c.m.hints, n)
		delete(c.m.shelves, n)
	}
	want(s.t, "SyncDir", s.d.SyncDir(), api.OK)
}

// wantSame fails unless all topics answer what their models do, and the disk is as it should be.
func (s *stage) wantSame(what string, x uint64) {
	s.t.Helper()
	ops := s.d.Ops()
	for _, c := range s.pairs {
		wantSame(s.t, fmt.Sprintf("%s, topic %d", what, c.m.id), c, x)
	}
	want(s.t, what+": operations of what only asks", s.d.Ops(), ops)
	wantFiles(s.t, what, s.d.Image(), s.w.files())
	s.wantSynced(what)
}

// wantSynced fails unless what may not wait for a sync is durable.
func (s *stage) wantSynced(what string) {
	s.t.Helper()
	left := filesOf(s.d.Crash(nil))
	loose := false
	for _, c := range s.pairs {
		loose = loose || c.m.loose
		durable := c.m.durable()
		for _, n := range c.m.man.Segs {
			name := segName(c.m.id, n)
			want(s.t, what+": what is durable of "+name, left[name], durable[name])
		}
		want(s.t, what+": what is durable of the manifest", left[manName(c.m.id)], durable[manName(c.m.id)])
	}
	if !loose {
		wantList(s.t, what+": names that are durable", namesOf(s.d.Crash(nil)), namesOf(s.d.Image()))
	}
}

func namesOf(image []api.File) []string {
	var names []string
	for _, f := range image {
		names = append(names, f.Name)
	}
	return names
}

// wantSame fails unless a topic answers what its model does.
func wantSame(t *testing.T, what string, c *pair, x uint64) {
	t.Helper()
	p, m := c.p, c.m
	want(t, what+": State", p.State(), m.state())
	wantRecords(t, what, p, m.left()...)
	wantList(t, what+": Sealed", p.Sealed(), m.sealed())
	wantList(t, what+": Stats", p.Stats(), m.stats())
	for i := range int64(4) {
		offset := int64(x>>(8*i)%uint64(m.end+3)) - 1
		for _, most := range []int{0, 1, 2, 1000} {
			for _, size := range []int{0, 1, 40, int(x >> 32 % 300), 1 << 40} {
				recs, next, e := m.from(offset, most, size)
				wantFrom(t, what, p, offset, most, size, recs, next, e)
			}
		}
	}
	for _, key := range append(keysOf(), "c") {
		wantGet(t, what, p, key, m.get(key))
	}
	for _, hi := range []string{"", "ab", "b\x00", "\xff\xff"} {
		for _, lo := range []string{"", "a\x00", "b", "z"} {
			most := int(x >> 40 % 5)
			keys, more := m.keys(lo, hi, most)
			wantKeys(t, what, p, lo, hi, most, more, keys...)
		}
	}
	entries := m.entries()
	for i, r := range m.log {
		now := int64(x >> (i % 40) % 100)
		if got, wanted := p.Needed(now, r), m.keeps(entries, now, r); got != wanted {
			t.Errorf("%s: Needed(%d, %s) = %t", what, now, brief(r), got)
		}
	}
	wantTaken(t, what, p, m)
}

// wantTaken fails unless a topic's sealed segments can be gone through by Take.
func wantTaken(t *testing.T, what string, p *topic.Topic, m *model) {
	t.Helper()
	for _, n := range m.sealed() {
		recs := m.shelves[n].recs
		if len(recs) == 0 {
			wantTake(t, what, p, n, 0, api.Record{}, 0, api.ErrPlace)
		}
		for i, l := range placed(recs) {
			next := l.Pos + l.Len
			if i == len(recs)-1 {
				next = -1
			}
			wantTake(t, what, p, n, l.Pos, l.Rec, next, api.OK)
			wantTake(t, what, p, n, l.Pos+1, api.Record{}, 0, api.ErrPlace)
			if i == 0 {
				wantTake(t, what, p, n, 0, l.Rec, next, api.OK)
			}
		}
	}
}

// 10.3, 10.4, 10.5, 10.6, 10.7, 10.9, 10.10, 10.11, 10.12, 10.13, 10.15, 10.16
func TestAgainstTheModel(t *testing.T) {
	count := map[string]int{}
	for seed := range uint64(150) {
		ids := [][]int{{3}, {0, 3}, {lastId, 3, 33}}[seed%3]
		s := staged(t, 256+int(seed%5)*37, int64(seed%4*9), ids...)
		s.count = count
		for i, x := range probe.Noise(seed+1, 60) {
			s.step(x >> 3)
			s.wantSame(fmt.Sprintf("seed %d, step %d", seed, i), x)
			if t.Failed() {
				t.FailNow()
			}
		}
	}
	for _, what := range []string{
		"Open", "Commit 0", "Roll 0", "Roll 33", "Install 0", "NewSeg 0", "Append true 0", "Append false 0",
		"Append false 3", "Append false 33", "Append false 42", "Append false 43", "Append false 45", "Append false 90", "Append false 91",
	} {
		if count[what] < 10 {
			t.Errorf("%s: only %d times of %v", what, count[what], count)
		}
	}
}
