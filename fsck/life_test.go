package fsck_test

import (
	"fmt"
	"maps"
	"slices"
	"testing"

	"chronicle/api"
	"chronicle/catalog"
	"chronicle/group"
	"chronicle/merge"
	"chronicle/probe"
	"chronicle/simfs"
	"chronicle/topic"
)

// life is a store to which many things are done, over crashes.
type life struct {
	t      *testing.T
	d      *simfs.Disk
	c      *catalog.Catalog
	own    *topic.Topic // the groups' own one
	g      *group.Groups
	merges map[int]*merge.Merge
	gens   map[string]int64
	seqs   map[int]int64 // of producers' last numbers, by topics and producers
	dice   []uint64
	now    int64
}

func newLife(t *testing.T, seed uint64) *life {
	t.Helper()
	d := holding(t, nil)
	_, e := topic.Create(d, 0, 65536, 0, 0)
	want(t, "topic.Create", e, api.OK)
	_, e = catalog.Format(d, usual())
	want(t, "Format", e, api.OK)
	l := &life{t: t, dice: probe.Noise(seed+1, 40000), gens: map[string]int64{}, seqs: map[int]int64{}}
	want(t, "Open", l.open(d.Image(), wide, -1), api.OK)
	return l
}

// roll is some number below n.
func (l *life) roll(n int) int {
	x := l.dice[0]
	l.dice = l.dice[1:]
	return int(x >> 20 % uint64(n))
}

// open goes on over an image, with power for some operations.
func (l *life) open(image []api.File, quota, fuse int) api.Errno {
	d, e := simfs.Load(image, quota)
	want(l.t, "Load", e, api.OK)
	d.Fuse(fuse)
	l.d, l.merges = d, map[int]*merge.Merge{}
	if l.c, e = catalog.Open(d, usual(), l.now); e != api.OK {
		return e
	}
	if l.own, e = topic.Open(d, 0, 65536, 0, l.now); e != api.OK {
		return e
	}
	// Where a roll had no room, and the power went when its file was to be removed again, the topic was opened all the same.
	l.g, e = group.New(l.own)
	want(l.t, "group.New", e == api.OK || d.Dead(), true)
	return e
}

// topics is all topics, by rising numbers.
func (l *life) topics() []*topic.Topic {
	list := []*topic.Topic{l.own}
	for name := range l.c.Names("") {
		p, _ := l.c.Topic(name)
		list = append(list, p)
	}
	slices.SortFunc(list, func(a, b *topic.Topic) int { return a.Id() - b.Id() })
	return list
}

// act does something.
func (l *life) act() {
	list := l.topics()
	p := list[l.roll(len(list))]
	switch n := l.roll(30); {
	case n == 0 && len(list) < 6:
		l.c.Create(fmt.Sprint("n", l.roll(9)), int64(l.roll(3)), l.now)
	case n == 1 && len(list) > 3 && l.roll(3) == 0:
		l.c.Drop(fmt.Sprint("n", l.roll(9)))
	case n == 2:
		p.Roll()
	case n < 6:
		p.Commit()
	case n == 6:
		l.now += int64(l.roll(40))
	case n == 7:
		if gen, e := l.g.Join(l.now, "g"); e == api.OK {
			l.gens["g"] = gen
		}
	case n == 8:
		l.g.Set(l.now, "g", l.gens["g"], l.roll(5), int64(l.roll(9)))
	case n < 16:
		l.merge(p)
	default:
		l.write(p)
	}
}

// merge makes a step of a topic's merge.
func (l *life) merge(p *topic.Topic) {
	m := l.merges[p.Id()]
	if m == nil || m.Over() {
		var e api.Errno
		if m, e = merge.Start(p); e != api.OK {
			return
		}
		l.merges[p.Id()] = m
	}
	for range l.roll(8) {
		m.Step(l.now)
	}
	if l.roll(30) == 0 {
		m.Stop()
	}
}

// write appends a record to a topic that is not the groups'.
func (l *life) write(p *topic.Topic) {
	if p.Id() == 0 {
		return
	}
	w := api.Write{Key: fmt.Sprint("k", l.roll(6)), Tombstone: l.roll(4) == 0}
	if !w.Tombstone {
		w.Value = probe.Text(uint64(l.roll(1000)), l.roll(3)*l.roll(60))
		if l.roll(10) == 0 { // a value that holds a record's bytes
			w.Value = "-" + bytesOf(put(int64(l.roll(40)), "inner", w.Value[:min(len(w.Value), 50)]))
		}
	}
	if pid := l.roll(4); pid > 0 {
		seq := l.seqs[p.Id()*10+pid]
		w.Pid, w.Seq = int64(pid), seq+1
	}
	if _, again, e := p.Append(l.now, w); e == api.OK && w.Pid > 0 && !again {
		l.seqs[p.Id()*10+int(w.Pid)]++
	} else if e == api.ErrSeq { // a crash has taken some
		l.seqs[p.Id()*10+int(w.Pid)] = 0
	} else if e == api.ErrStale || again {
		l.seqs[p.Id()*10+int(w.Pid)]++
	}
}

// settled makes all durable that waits.
func (l *life) settled() files {
	for _, p := range l.topics() {
		p.Commit()
	}
	return filesOf(l.d.Image())
}

// left is what a crash leaves, by chance.
func (l *life) left() []api.File {
	var picks []int
	for range 60 {
		picks = append(picks, l.roll(1000))
	}
	return l.d.Crash(picks[:l.roll(60)])
}

// records is what each topic tells.
func (l *life) records() map[int][]api.Record {
	all := map[int][]api.Record{}
	for _, p := range l.topics() {
		recs, e := p.Records()
		want(l.t, "Records", e, api.OK)
		all[p.Id()] = recs
	}
	return all
}

func (l *life) names() map[int]string {
	all := map[int]string{0: ""}
	for _, info := range l.c.List() {
		all[info.Id] = info.Name
	}
	return all
}

// wantSavedAsTold fails unless Salvage tells just what the topics do.
func (l *life) wantSavedAsTold(what string) {
	l.t.Helper()
	var list []api.Saved
	recs, names := l.records(), l.names()
	for _, id := range slices.Sorted(maps.Keys(recs)) {
		list = append(list, api.Saved{Name: names[id], Id: id, Records: recs[id]})
	}
	wantSaved(l.t, what, salvaged(l.t, what, l.d), list)
}
