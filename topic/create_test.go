package topic_test

import (
	"fmt"
	"maps"
	"math"
	"testing"

	"chronicle/api"
	"chronicle/manifest"
	"chronicle/simfs"
	"chronicle/topic"
)

// fresh is the files of the topic 3 that has just been created at the time 7.
func fresh() files {
	return stored(api.Manifest{Id: 3, Clock: 7}, shelf{number: 1})
}

// others is files that are not of the topic 3, though some look much like it.
func others() files {
	f := stored(api.Manifest{Id: 33}, shelf{number: 1, recs: []api.Record{put(0, "a", "1")}, sealed: true}, shelf{number: 2, base: 1})
	return f.with("catalog", "C").with("catalog.tmp", "D").with("t3.seg", "E").with("t03.1.seg", "F").with("t3.0.seg", "G").with("t0.man", "H").with("x", "I")
}

// both is two disks' files on one.
func both(a, b files) files {
	f := files{}
	maps.Copy(f, a)
	maps.Copy(f, b)
	return f
}

// edge is arguments of Create and Open, and what stands against them.
type edge struct {
	id, limit    int
	horizon, now int64
	errno        api.Errno
}

func edges() []edge {
	var list []edge
	for _, id := range []int{math.MinInt, -1, 1 << 30, math.MaxInt} {
		list = append(list, edge{id, 256, 0, 0, api.ErrConfig}, edge{id, 256, 0, -1, api.ErrConfig})
	}
	for _, limit := range []int{math.MinInt, -1, 0, 255, 65537, math.MaxInt} {
		list = append(list, edge{3, limit, 0, 0, api.ErrConfig}, edge{3, limit, 0, 1 << 50, api.ErrConfig})
	}
	for _, horizon := range []int64{math.MinInt64, -1, 1<<40 + 1, math.MaxInt64} {
		list = append(list, edge{3, 256, horizon, 0, api.ErrConfig}, edge{3, 256, horizon, -1, api.ErrConfig})
	}
	for _, now := range []int64{math.MinInt64, -1, 1 << 50, math.MaxInt64} {
		list = append(list, edge{3, 256, 0, now, api.ErrArg}, edge{lastId, 65536, 1 << 40, now, api.ErrArg})
	}
	for _, id := range []int{0, 1, lastId} {
		list = append(list, edge{id, 256, 1, 1, api.OK})
	}
	for _, limit := range []int{256, 257, 65535, 65536} {
		list = append(list, edge{3, limit, 1, 1, api.OK})
	}
	for _, horizon := range []int64{0, 1, 1<<40 - 1, 1 << 40} {
		list = append(list, edge{3, 300, horizon, 1, api.OK})
	}
	for _, now := range []int64{0, 1, lastTime - 1, lastTime} {
		list = append(list, edge{3, 300, 1, now, api.OK})
	}
	return list
}

// 10.1, 10.2, 10.9
func TestEdgesOfTheArguments(t *testing.T) {
	for _, c := range edges() {
		what := fmt.Sprintf("%+v", c)
		d := holding(t, nil)
		p, e := topic.Create(d, c.id, c.limit, c.horizon, c.now)
		if c.errno != api.OK {
			wantRefused(t, what+": Create", p, e, c.errno)
			wantFiles(t, what, d.Image(), nil)
			p, e = topic.Open(d, c.id, c.limit, c.horizon, c.now)
			wantRefused(t, what+": Open", p, e, c.errno)
			unpower(t, d)
			p, e = topic.Create(d, c.id, c.limit, c.horizon, c.now)
			wantRefused(t, what+": Create without power", p, e, c.errno)
			p, e = topic.Open(d, c.id, c.limit, c.horizon, c.now)
			wantRefused(t, what+": Open without power", p, e, c.errno)
			continue
		}
		for range 2 {
			if p == nil || e != api.OK {
				t.Fatalf("%s: %v, %d", what, p, e)
			}
			want(t, what+": Id", p.Id(), c.id)
			want(t, what+": Disk", p.Disk(), d)
			want(t, what+": Limit", p.Limit(), c.limit)
			want(t, what+": Horizon", p.Horizon(), c.horizon)
			want(t, what+": State", p.State(), api.TopicState{Id: c.id, Clock: c.now, Segs: 1, Bytes: 21})
			p, e = topic.Open(d, c.id, c.limit, c.horizon, 0)
		}
	}
}

func TestNilDisks(t *testing.T) {
	for _, c := range append(edges(), edge{}) {
		p, e := topic.Create(nil, c.id, c.limit, c.horizon, c.now)
		wantRefused(t, "Create on no disk", p, e, api.ErrNil)
		p, e = topic.Open(nil, c.id, c.limit, c.horizon, c.now)
		wantRefused(t, "Open on no disk", p, e, api.ErrNil)
	}
	// A disk that was not made by New has no room.
	p, e := topic.Create(&simfs.Disk{}, 3, 256, 100, 7)
	wantRefused(t, "Create on an empty disk", p, e, api.ErrSpace)
	p, e = topic.Open(&simfs.Disk{}, 3, 256, 100, 7)
	wantRefused(t, "Open on an empty disk", p, e, api.ErrTopic)
}

// 10.1
func TestCreate(t *testing.T) {
	for _, f := range []files{nil, others()} {
		d := holding(t, f)
		p, e := topic.Create(d, 3, 256, 100, 7)
		if p == nil || e != api.OK {
			t.Fatalf("Create: %v, %d", p, e)
		}
		want(t, "State", p.State(), api.TopicState{Id: 3, Clock: 7, Segs: 1, Bytes: 21})
		wantFiles(t, "created", d.Image(), both(f, fresh()))
		wantFiles(t, "durable", d.Crash(nil), both(f, fresh()))
		want(t, "operations", d.Ops(), 8)
		wantRecords(t, "created", p)
		wantFrom(t, "created", p, 0, 1, 1, nil, 0, api.OK)
		wantKeys(t, "created", p, "", "", 9, false)
		wantList(t, "Sealed", p.Sealed(), nil)
		wantList(t, "Stats", p.Stats(), nil)
		n, e := p.NewSeg()
		want(t, "NewSeg", fmt.Sprint(n, e), "2 0")
		// Without producers each of them begins with 1, and without a mark none is told.
		wantAppend(t, "the number 2 of a producer", p, 7, api.Write{Key: "a", Pid: 9, Seq: 2}, 0, false, api.ErrSeq)
		wantAppend(t, "the number 1 of a producer", p, 7, api.Write{Key: "a", Pid: 9, Seq: 1}, 0, false, api.OK)
	}
}

// mess is files of the topic 3 of all kinds.
func mess() files {
	return files{
		"t3.1.seg": "old", "t3.1.hint": "old", "t3.2.seg": "", "t3.man": "old", "t3.man.tmp": "old",
		"t3.77.hint": "", "t3.9.seg.tmp": "old", "t3.9.hint.tmp": "", "t3.1073741823.seg": "old",
	}
}

func TestCreateOverFiles(t *testing.T) {
	for name := range mess() {
		wantCreatedOver(t, name, files{name: mess()[name]})
	}
	wantCreatedOver(t, "a mess", mess())
	old := stored(api.Manifest{Id: 3, Next: 2, Mark: 1, Clock: 90, Prods: []api.Prod{{Pid: 1, Seq: 1, Off: 1}}},
		shelf{number: 4, recs: []api.Record{put(0, "a", "1")}, sealed: true}, shelf{number: 1, base: 1, recs: []api.Record{of(1, 1, put(1, "b", "2"))}})
	wantCreatedOver(t, "a topic", old)
}

// wantCreatedOver fails unless Create takes away files of its number, and no others, and makes that durable ahead of what it makes.
func wantCreatedOver(t *testing.T, what string, f files) {
	t.Helper()
	d := holding(t, both(others(), f))
	p, e := topic.Create(d, 3, 256, 100, 7)
	if p == nil || e != api.OK {
		t.Fatalf("%s: Create: %v, %d", what, p, e)
	}
	want(t, what+": State", p.State(), api.TopicState{Id: 3, Clock: 7, Segs: 1, Bytes: 21})
	wantFiles(t, what, d.Image(), both(others(), fresh()))
	wantFiles(t, what+": durable", d.Crash(nil), both(others(), fresh()))
	want(t, what+": operations", d.Ops(), len(f)+1+8)
	// With power for the removing, and a sync of the directory, nothing of it comes back.
	d = holding(t, both(others(), f))
	d.Fuse(len(f) + 1)
	p, e = topic.Create(d, 3, 256, 100, 7)
	wantRefused(t, what+": power for the removing", p, e, api.ErrDead)
	wantFiles(t, what+": power for the removing", d.Crash(nil), others())
	// The names go one behind the other.
	for n := range len(f) + 1 {
		d = holding(t, both(others(), f))
		d.Fuse(n)
		topic.Create(d, 3, 256, 100, 7)
		rest := both(others(), files{})
		for _, one := range f.image()[n:] {
			rest[one.Name] = string(one.Data)
		}
		wantFiles(t, fmt.Sprintf("%s: power for %d", what, n), d.Image(), rest)
	}
}

// A topic is created anew over one that is in use, or was.
func TestCreateAnew(t *testing.T) {
	d, p := made(t)
	lay(t, p, put(0, "a", "1"))
	roll(t, p)
	q, e := topic.Create(d, 3, 300, 5, 3)
	if q == nil || e != api.OK {
		t.Fatalf("Create: %v, %d", q, e)
	}
	want(t, "State", q.State(), api.TopicState{Id: 3, Clock: 3, Segs: 1, Bytes: 21})
	lay(t, q, put(0, "b", "2"))
	commit(t, q)
	want(t, "Drop", q.Drop(), api.OK)
	r, e := topic.Create(d, 3, 256, 100, 7)
	if r == nil || e != api.OK {
		t.Fatalf("Create: %v, %d", r, e)
	}
	wantFiles(t, "created anew", d.Image(), fresh())
}

// What stands against it is told, and nothing of it is left.
func TestCreateRefused(t *testing.T) {
	man := len(fresh()["t3.man"])
	for room := range 21 + man + 2 {
		for _, f := range []files{nil, others(), both(others(), mess())} {
			d := holding(t, f)
			own := 0 // what Create makes room for by itself
			for name, b := range mess() {
				if _, ok := f[name]; ok {
					own += len(b)
				}
			}
			d.SetQuota(d.Used() - own + room)
			p, e := topic.Create(d, 3, 256, 100, 7)
			if room >= 21+man {
				want(t, fmt.Sprintf("room for %d", room), e, api.OK)
				continue
			}
			wantRefused(t, fmt.Sprintf("room for %d", room), p, e, api.ErrSpace)
			rest := others()
			if f == nil {
				rest = nil
			}
			wantFiles(t, fmt.Sprintf("room for %d", room), d.Image(), rest)
			q, e := topic.Open(d, 3, 256, 100, 7)
			wantRefused(t, "Open", q, e, api.ErrTopic)
		}
	}
}

// crowded is a disk on which so many more files have room.
func crowded(t *testing.T, f files, more int) *simfs.Disk {
	t.Helper()
	f = both(f, nil)
	for n := 0; len(f) < 65536-more; n++ {
		f[fmt.Sprint("x", n)] = ""
	}
	return holding(t, f)
}

func TestCreateAmongManyFiles(t *testing.T) {
	for more := range 3 {
		d := crowded(t, nil, more)
		p, e := topic.Create(d, 3, 256, 100, 7)
		if more == 2 {
			want(t, "room for two", e, api.OK)
			continue
		}
		wantRefused(t, fmt.Sprint("room for ", more), p, e, api.ErrFiles)
		names, _ := d.List()
		want(t, "files", len(names), 65536-more)
		_, e = manifest.Load(d, 3)
		want(t, "the manifest", e, api.ErrNoFile)
	}
}

func TestWithoutPower(t *testing.T) {
	d := holding(t, fresh())
	unpower(t, d)
	p, e := topic.Create(d, 3, 256, 100, 7)
	wantRefused(t, "Create", p, e, api.ErrDead)
	p, e = topic.Open(d, 3, 256, 100, 7)
	wantRefused(t, "Open", p, e, api.ErrDead)
	p, e = topic.Open(d, 4, 256, 100, 7) // there is none, but that cannot be seen
	wantRefused(t, "Open of none", p, e, api.ErrDead)
	wantFiles(t, "the disk", d.Image(), fresh())
}
