package fsck_test

import (
	"fmt"
	"slices"
	"testing"

	"chronicle/api"
	"chronicle/catalog"
	"chronicle/manifest"
	"chronicle/probe"
	"chronicle/record"
	"chronicle/simfs"
	"chronicle/topic"
)

// breaker does damage to files.
type breaker struct{ *life }

// some is one of a list.
func some[T any](b breaker, list []T) T { return list[b.roll(len(list))] }

// name is some name that a store's file may have, or nearly.
func (b breaker) name() string {
	id, seg := b.roll(5), 1+b.roll(7)
	tmp := some(b, []string{"", "", "", ".tmp"})
	return some(b, []string{segName(id, seg), segName(id, seg), hintName(id, seg), manName(id), "catalog", "x"}) + tmp
}

// record is some record, by an offset that is there, or nearly.
func (b breaker) record(off int) api.Record {
	r := at(int64(b.roll(90)), put(int64(off), fmt.Sprint("k", b.roll(6)), probe.Text(uint64(b.roll(99)), b.roll(50))))
	if pid := b.roll(4); pid > 0 {
		r = of(int64(pid), int64(1+b.roll(30)), r)
	}
	return r
}

// segment is some segment of a topic.
func (b breaker) segment(number int) shelf {
	s := shelf{number: number, sealed: b.roll(2) == 0}
	off := b.roll(40)
	s.base = int64(off - b.roll(min(off, 3)+1))
	for range b.roll(5) {
		s.recs = append(s.recs, b.record(off))
		off += 1 + b.roll(3)
	}
	return s
}

// manifest is a manifest of a topic, much like the one that is there.
func (b breaker) manifest(f files, id int) string {
	m, _ := slowManifest(f, id)
	m.Id, m.NextSeg = id, max(m.NextSeg, 9)
	switch b.roll(4) {
	case 0:
		m.Next = int64(b.roll(12))
	case 1:
		if seg := 1 + b.roll(8); !slices.Contains(m.Segs, seg) && len(m.Segs) < 64 {
			m.Segs = slices.Insert(m.Segs, b.roll(len(m.Segs)+1), seg)
		}
	case 2:
		slices.Reverse(m.Segs)
	case 3:
		m.Prods = []api.Prod{{Pid: int64(1 + b.roll(2)), Seq: int64(1 + b.roll(30)), Off: 0}, {Pid: int64(3 + b.roll(3)), Seq: int64(1 + b.roll(30)), Off: 0}}
		m.Next = max(m.Next, 1)
	}
	if len(m.Segs) == 0 {
		m.Segs = []int{1}
	}
	m.Mark = min(m.Mark, m.Next)
	for i := range m.Prods {
		m.Prods[i].Off = min(m.Prods[i].Off, max(m.Next-1, 0))
	}
	if m.Next == 0 {
		m.Prods = nil
	}
	return manOf(m)
}

// catalogue is another catalogue.
func (b breaker) catalogue() string {
	var list []api.TopicEntry
	names := []string{"a", "lost-1", "lost-1-1", "lost-2", "lost-3", "lost-3-1", "n1", "n2"}
	id := 0
	for _, i := range slices.Sorted(slices.Values([]int{b.roll(8), b.roll(8), b.roll(8)})) {
		id += 1 + b.roll(3)
		if len(list) == 0 || list[len(list)-1].Name < names[i] {
			list = append(list, api.TopicEntry{Id: id, Name: names[i], Limit: 256 + b.roll(2)*300, Horizon: int64(b.roll(9))})
		}
	}
	if b.roll(2) == 0 && len(list) > 1 {
		list[0].Id, list[1].Id = list[1].Id, list[0].Id
	}
	return catalogue(id+1+b.roll(3), list...)
}

// harm does one damage.
func (b breaker) harm(f files) files {
	name := some(b, append(f.names(), b.name()))
	n := len(f[name])
	switch b.roll(24) {
	case 0, 1, 2, 3, 4, 5:
		if n > 0 {
			return f.turned(name, b.roll(n))
		}
	case 6, 7:
		return f.with(name, f[name][:b.roll(n+1)])
	case 8:
		return f.without(name)
	case 9:
		return f.with(b.name(), f[name])
	case 10:
		other := some(b, append(f.names(), b.name()))
		return f.with(name, f[other]).with(other, f[name])
	case 11, 12:
		return f.with(name, f[name]+some(b, []string{"x", "\xa9", "\xae", bytesOf(b.record(b.roll(40)))}))
	case 13:
		return f.with(b.name(), "")
	case 14, 15, 16, 17:
		id, seg := b.roll(5), 1+b.roll(7)
		s := b.segment(seg)
		g := f.with(segName(id, seg), s.bytes(id))
		if b.roll(2) == 0 {
			g = g.with(hintName(id, seg), s.hint())
		}
		return g
	case 18, 19, 20, 21:
		id := slowParse(name).Id
		return f.with(manName(id), b.manifest(f, id))
	case 22:
		return f.with("catalog", b.catalogue())
	}
	return f.without("catalog")
}

// grown is the files of a store that was used for a while, with pending records as they are seen.
func grown(t *testing.T, seed uint64) (*life, files) {
	t.Helper()
	l := newLife(t, seed)
	for range 20 + l.roll(100) {
		l.act()
	}
	return l, filesOf(l.d.Image())
}

// 21.1, 21.2, 21.3: whatever lies on a disk, all calls answer as the slow ones, and what is made anew is a store.
func TestDamagedStores(t *testing.T) {
	count := map[string]int{}
	for seed := range uint64(400) {
		l, f := grown(t, seed)
		b := breaker{l}
		for round := range 5 {
			what := fmt.Sprintf("seed %d, round %d", seed, round)
			cfg := api.Config{Limit: 256 + b.roll(3)*100, Horizon: int64(b.roll(50))}
			findings, made, e := wantAsSlow(t, what, f, cfg)
			for _, finding := range findings {
				count[fmt.Sprint("kind ", finding.Kind)]++
			}
			count[fmt.Sprint("Rebuild ", e)]++
			if e == api.OK {
				wantGood(t, what, f, made, cfg, count)
			}
			if t.Failed() {
				t.Fatalf("%s: %v", what, f.names())
			}
			for range 1 + b.roll(3) {
				f = b.harm(f)
			}
		}
	}
	for kind := range 11 {
		if count[fmt.Sprint("kind ", kind)] < 50 {
			t.Errorf("kind %d was found %d times", kind, count[fmt.Sprint("kind ", kind)])
		}
	}
	for _, what := range []string{"a topic without a name", "a topic of a number that was not saved", "a producer goes on", "records"} {
		if count[what] < 50 {
			t.Errorf("%s: %d times", what, count[what])
		}
	}
	t.Log(count)
}

// 21.6: nothing is wrong with what was made anew; it opens, has what was saved, and goes on above that.
func wantGood(t *testing.T, what string, f, made files, cfg api.Config, count map[string]int) {
	t.Helper()
	d := holding(t, made)
	wantList(t, what+": made anew: Check", checked(t, what, d), nil)
	c, e := catalog.Open(d, cfg, 0)
	want(t, what+": made anew: Open", e, api.OK)
	if e != api.OK {
		return
	}
	saved := map[int][]api.Record{}
	for _, s := range salvaged(t, what, holding(t, f)) {
		saved[s.Id] = s.Records
		if s.Name == "" {
			count["a topic without a name"]++
		}
	}
	topics := []*topic.Topic{}
	if _, groups := saved[0]; groups {
		own, e := topic.Open(d, 0, 65536, 0, 0)
		want(t, what+": made anew: the groups", e, api.OK)
		topics = append(topics, own)
	}
	for name := range c.Names("") {
		p, _ := c.Topic(name)
		topics = append(topics, p)
	}
	for _, p := range topics {
		recs, e := p.Records()
		want(t, what+": made anew: Records", e, api.OK)
		wantRecords(t, fmt.Sprint(what, ": made anew: ", p.Id()), recs, saved[p.Id()])
		if _, was := saved[p.Id()]; !was {
			count["a topic of a number that was not saved"]++
		}
		count["records"] += len(recs)
		wantGoesOn(t, fmt.Sprint(what, ": ", p.Id()), d, p, recs, count)
	}
}

// wantGoesOn fails unless appends get offsets above all records, and producers' numbers go on.
func wantGoesOn(t *testing.T, what string, d *simfs.Disk, p *topic.Topic, recs []api.Record, count map[string]int) {
	t.Helper()
	m, _ := manifest.Load(d, p.Id())
	next := m.Next
	for _, r := range recs {
		want(t, what+": Next", next > r.Offset, true)
	}
	want(t, what+": State", p.State().Next, next)
	if next > 1<<39 {
		return // there may be no more
	}
	for _, prod := range m.Prods {
		off, again, e := p.Append(0, api.Write{Key: "k", Pid: prod.Pid, Seq: prod.Seq})
		want(t, what+": once more", fmt.Sprint(off, again, e), fmt.Sprint(prod.Off, true, api.OK))
		off, again, e = p.Append(0, api.Write{Key: "k", Pid: prod.Pid, Seq: prod.Seq + 1})
		want(t, what+": the next number", fmt.Sprint(off, again, e), fmt.Sprint(next, false, api.OK))
		next++
		count["a producer goes on"]++
	}
	r := api.Write{Key: "k", Value: "v"}
	off, again, e := p.Append(0, r)
	want(t, what+": one more", fmt.Sprint(off, again, e), fmt.Sprint(next, false, api.OK))
	want(t, what+": Commit", p.Commit(), api.OK)
	got, _, _ := p.Get("k")
	want(t, what+": Get", got.Offset, next)
	want(t, what+": Check", record.Check(got), api.OK)
}
