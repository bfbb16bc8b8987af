package catalog_test

import (
	"fmt"
	"maps"
	"math"
	"slices"
	"testing"

	"chronicle/api"
	"chronicle/catalog"
	"chronicle/manifest"
	"chronicle/simfs"
)

// strangers is files of all kinds that belong to no topic of three, nor of none.
func strangers() files {
	return files{
		"catalog.tmp": "A", "t3.1.seg": "B", "t3.2.hint": "C", "t3.man": "D", "t3.man.tmp": "E", "t5.1.seg.tmp": "F", "t7.9.hint.tmp": "",
		"t11.1.seg": "G", "t1073741823.1073741823.hint.tmp": "H", "t41.man": "I", "t1073741823.man": "",
	}
}

// others is files that no catalogue says anything of: of the topic 0, and of no store.
func others() files {
	return files{
		"t0.1.seg": "a", "t0.1.hint": "b", "t0.man": "c", "t0.man.tmp": "d", "t0.7.seg.tmp": "", "x": "e", "t03.man": "f", "t3.seg": "g",
		"t3.0.seg": "h", "t1073741824.man": "i", "catalog.tmp.tmp": "j", "catalogue": "k", "t3.man.tmp.tmp": "", "t.man": "l", "t-3.man": "m", "t3.1.seg.x": "n",
	}
}

// 14.1
func TestFormat(t *testing.T) {
	for what, f := range map[string]files{
		"an empty disk":      {},
		"files of no topic":  others(),
		"files of strangers": strangers().without("catalog.tmp"),
		"a file with .tmp":   strangers(),
	} {
		d := holding(t, f)
		c, e := catalog.Format(d, usual())
		if c == nil || e != api.OK {
			t.Fatalf("%s: %v, %d", what, c, e)
		}
		wantTopics(t, what, c)
		wantDurable(t, what, d, f.without("catalog.tmp").with(catalogue(1)))
		ops := 5
		if f["catalog.tmp"] != "" {
			ops++
		}
		want(t, what+": operations", d.Ops(), ops)
		wantCreate(t, what, c, "first", 0, 0, 1, api.OK)
	}
}

// What stands under the name does not matter.
func TestFormatOverACatalogue(t *testing.T) {
	for _, b := range []string{catalogue(1)["catalog"], stored(2, crowd(1)...)["catalog"], "", "no catalogue"} {
		d := holding(t, strangers().with(files{"catalog": b}))
		undone(t, "a catalogue", d, nil, func() {
			c, e := catalog.Format(d, usual())
			wantRefused(t, "a catalogue", c, e, api.ErrExists)
		})
	}
	d, c := formatted(t)
	undone(t, "Format twice", d, c, func() {
		again, e := catalog.Format(d, usual())
		wantRefused(t, "Format twice", again, e, api.ErrExists)
	})
}

// beginnings is configs and times, and what Open says of them.
func beginnings() map[api.Config]api.Errno {
	all := map[api.Config]api.Errno{}
	for _, limit := range []int{256, 257, 65535, 65536} {
		all[api.Config{Limit: limit, Horizon: 7}] = api.OK
	}
	for _, horizon := range []int64{0, 1, horizons - 1, horizons} {
		all[api.Config{Limit: 300, Horizon: horizon}] = api.OK
	}
	for _, limit := range []int{math.MinInt, -256, -1, 0, 255, 65537, math.MaxInt} {
		all[api.Config{Limit: limit, Horizon: 7}] = api.ErrConfig
		all[api.Config{Limit: limit, Horizon: -1}] = api.ErrConfig
	}
	for _, horizon := range []int64{math.MinInt64, -1, horizons + 1, math.MaxInt64} {
		all[api.Config{Limit: 300, Horizon: horizon}] = api.ErrConfig
	}
	for cfg, e := range maps.Clone(all) { // of these nothing is asked here
		cfg.Share, cfg.Num, cfg.Den, cfg.Burst = -5, math.MinInt64, 0, math.MaxInt64
		all[cfg] = e
	}
	return all
}

// 14.1, 14.2, 14.3: which configs may be, and what becomes of them.
func TestConfigs(t *testing.T) {
	for cfg, errno := range beginnings() {
		what := fmt.Sprintf("%+v", cfg)
		if errno != api.OK {
			for _, now := range []int64{0, -1} {
				c, e := catalog.Format(nil, cfg)
				wantRefused(t, what+", no disk", c, e, api.ErrNil)
				c, e = catalog.Open(nil, cfg, now)
				wantRefused(t, what+", no disk", c, e, api.ErrNil)
				for _, f := range []files{{}, catalogue(1).with(strangers())} {
					d := holding(t, f)
					undone(t, what, d, nil, func() {
						c, e := catalog.Format(d, cfg)
						wantRefused(t, what+": Format", c, e, errno)
						c, e = catalog.Open(d, cfg, now)
						wantRefused(t, what+": Open", c, e, errno)
					})
					unpower(t, d)
					c, e := catalog.Format(d, cfg)
					wantRefused(t, what+": Format without power", c, e, errno)
					c, e = catalog.Open(d, cfg, now)
					wantRefused(t, what+": Open without power", c, e, errno)
				}
			}
			continue
		}
		d := holding(t, nil)
		c, e := catalog.Format(d, cfg)
		if c == nil || e != api.OK {
			t.Fatalf("%s: Format: %v, %d", what, c, e)
		}
		wantCreate(t, what, c, "a", 0, 0, 1, api.OK)
		a := api.TopicEntry{Id: 1, Name: "a", Limit: cfg.Limit, Horizon: cfg.Horizon}
		wantTopics(t, what, c, a)
		c, e = catalog.Open(d, cfg, 0)
		if c == nil || e != api.OK {
			t.Fatalf("%s: Open: %v, %d", what, c, e)
		}
		wantCreate(t, what, c, "b", 0, 0, 2, api.OK)
		wantTopics(t, what, c, a, api.TopicEntry{Id: 2, Name: "b", Limit: cfg.Limit, Horizon: cfg.Horizon})
		// A topic keeps what it was created with.
		wantTopics(t, what, opened(t, d), a, api.TopicEntry{Id: 2, Name: "b", Limit: cfg.Limit, Horizon: cfg.Horizon})
	}
}

// 14.1
func TestFormatTellsTheFirstError(t *testing.T) {
	c, e := catalog.Format(nil, usual())
	wantRefused(t, "no disk", c, e, api.ErrNil)
	d := holding(t, catalogue(1))
	unpower(t, d)
	c, e = catalog.Format(d, usual())
	wantRefused(t, "no power, and a catalogue", c, e, api.ErrDead)
	d = holding(t, catalogue(1))
	d.SetQuota(0)
	c, e = catalog.Format(d, usual())
	wantRefused(t, "no room, and a catalogue", c, e, api.ErrExists)
	c, e = catalog.Format(&simfs.Disk{}, usual())
	wantRefused(t, "a disk that nobody made", c, e, api.ErrSpace)
	for room := range len(catalogue(1)["catalog"]) {
		d := holding(t, others())
		d.SetQuota(d.Used() + room)
		c, e := catalog.Format(d, usual())
		wantRefused(t, "too little room", c, e, api.ErrSpace)
		wantFiles(t, "too little room", d.Image(), others())
	}
}

// 14.1: the power goes.
func TestFormatWithoutPower(t *testing.T) {
	for fuse := range 6 {
		d, other := holding(t, strangers()), holding(t, strangers())
		d.Fuse(fuse)
		other.Fuse(fuse)
		c, e := catalog.Format(d, usual())
		_, e2 := slowFormat(other, usual())
		want(t, "slowly", e2, api.ErrDead)
		wantRefused(t, "the power goes", c, e, api.ErrDead)
		alike(t, "the power goes", d, other)
	}
}

// 14.2
func TestOpenOfAnEmptyStore(t *testing.T) {
	for _, next := range []int{1, 2, 900, lastId, lastId + 1} {
		d, c := over(t, catalogue(next))
		wantTopics(t, "no topics", c)
		want(t, "operations", d.Ops(), 0)
		wantDurable(t, "no topics", d, catalogue(next))
		if next <= lastId {
			wantCreate(t, "the next number", c, "x", 0, 0, next, api.OK)
		}
	}
}

func TestOpenTimes(t *testing.T) {
	for _, now := range []int64{math.MinInt64, -1, lastTime + 1, math.MaxInt64} {
		for _, f := range []files{{}, lived(t).with(strangers())} {
			d := holding(t, f)
			undone(t, "no time", d, nil, func() {
				c, e := catalog.Open(d, usual(), now)
				wantRefused(t, fmt.Sprint("at ", now), c, e, api.ErrArg)
			})
			unpower(t, d)
			c, e := catalog.Open(d, usual(), now)
			wantRefused(t, fmt.Sprint("without power, at ", now), c, e, api.ErrArg)
		}
		c, e := catalog.Open(nil, usual(), now)
		wantRefused(t, "no disk", c, e, api.ErrNil)
	}
	for _, now := range []int64{0, 1, 3, 4, lastTime - 1, lastTime} {
		c, e := catalog.Open(holding(t, lived(t)), usual(), now)
		if c == nil || e != api.OK {
			t.Fatalf("at %d: %v, %d", now, c, e)
		}
		wantTopics(t, fmt.Sprint("at ", now), c, three()...)
		want(t, "the clock of a", of(t, c, "a").State().Clock, max(now, 3))
		want(t, "the clock of b-2", of(t, c, "b-2").State().Clock, now)
	}
}

// 14.2: what stands under the name is no catalogue.
func TestOpenOfNoCatalogue(t *testing.T) {
	good := lived(t)
	man, _ := manifest.Encode(api.Manifest{Id: 1, NextSeg: 2, Segs: []int{1}})
	bad := []string{"", "x", string(man), good["catalog"] + "x", good["catalog"][:len(good["catalog"])-1]}
	for i := range good["catalog"] {
		b := []byte(good["catalog"])
		b[i] ^= 4
		bad = append(bad, string(b))
	}
	for _, b := range bad {
		d := holding(t, good.with(strangers()).with(files{"catalog": b}))
		undone(t, "no catalogue", d, nil, func() {
			c, e := catalog.Open(d, usual(), 0)
			wantRefused(t, fmt.Sprintf("%.20x", b), c, e, api.ErrDamaged)
		})
	}
	for what, f := range map[string]files{"an empty disk": {}, "all but the catalogue": good.with(strangers()).without("catalog")} {
		d := holding(t, f)
		undone(t, what, d, nil, func() {
			c, e := catalog.Open(d, usual(), 0)
			wantRefused(t, what, c, e, api.ErrNoFile)
		})
		unpower(t, d)
		c, e := catalog.Open(d, usual(), 0)
		wantRefused(t, what+" without power", c, e, api.ErrDead)
	}
	c, e := catalog.Open(nil, usual(), 0)
	wantRefused(t, "no disk", c, e, api.ErrNil)
	c, e = catalog.Open(&simfs.Disk{}, usual(), 0)
	wantRefused(t, "a disk that nobody made", c, e, api.ErrNoFile)
}

// 14.2: files that belong to no topic go, and no others.
func TestOpenOverStrangers(t *testing.T) {
	for what, f := range map[string]files{"no topics": catalogue(7), "topics": lived(t)} {
		for _, more := range []files{{}, others()} {
			for _, name := range append(strangers().names(), "") {
				few := files{name: strangers()[name]}.without("")
				d := holding(t, f.with(more).with(few))
				c := opened(t, d)
				wantDurable(t, what+", "+name, d, f.with(more))
				list := three()
				if what == "no topics" {
					list = nil
				}
				wantTopics(t, what+", "+name, c, list...)
			}
			d := holding(t, f.with(more).with(strangers()))
			opened(t, d)
			wantDurable(t, what+", all of them", d, f.with(more))
		}
	}
	d, _ := over(t, catalogue(7).with(strangers()))
	want(t, "operations", d.Ops(), len(strangers())+1)
	// With such topics they would be strangers, without them they are not.
	d, _ = over(t, lived(t).without("t4.1.seg", "t4.1.hint", "t4.2.seg", "t4.man").with(catalogue(7, three()[1:]...)))
	wantDurable(t, "of two topics", d, lived(t).without("t4.1.seg", "t4.1.hint", "t4.2.seg", "t4.man").with(catalogue(7, three()[1:]...)))
	d, _ = over(t, lived(t).with(catalogue(7, three()[:1]...)))
	wantFiles(t, "of one topic", d.Image(), lived(t).of(4).with(catalogue(7, three()[:1]...)))
}

// 14.2: topics are as they were.
func TestOpenTopics(t *testing.T) {
	_, c := over(t, lived(t))
	wantTopics(t, "opened", c, three()...)
	wantList(t, "List", c.List(), livedInfos())
	r, ok, e := of(t, c, "a").Get("k")
	want(t, "Get", fmt.Sprint(r.Value, " ", r.Offset, ok, e), "anew 2 true 0")
	r, ok, e = of(t, c, "b").Get("k")
	want(t, "Get", fmt.Sprint(r.Value, " ", r.Offset, ok, e), "value of b 0 true 0")
	wantCreate(t, "the next number", c, "c", 0, 0, 7, api.OK)
}

// littered is the files of lived, with something in each topic that topic.Open removes.
func littered(t *testing.T) files {
	return lived(t).with(files{"t1.9.seg": "x", "t2.9.seg": "x", "t4.9.seg": "x", "t4.man.tmp": "x"})
}

// 14.2: topics are opened by rising numbers, and the first error is the answer.
func TestOpenTellsTheFirstTopicsError(t *testing.T) {
	f := littered(t).with(strangers()).with(others())
	for damaged, left := range map[string][]string{
		"t1.man":   {"t1.9.seg", "t2.9.seg", "t4.9.seg", "t4.man.tmp"},
		"t2.man":   {"t2.9.seg", "t4.9.seg", "t4.man.tmp"},
		"t4.1.seg": {"t4.9.seg", "t4.man.tmp"},
	} {
		for _, how := range []files{f.without(damaged), f.with(files{damaged: "damaged"})} {
			d := holding(t, how)
			c, e := catalog.Open(d, usual(), 0)
			wantRefused(t, damaged, c, e, api.ErrTopic)
			rest := how.without(strangers().names()...).without("t1.9.seg", "t2.9.seg", "t4.9.seg", "t4.man.tmp")
			for _, name := range left {
				rest[name] = "x"
			}
			wantDurable(t, damaged, d, rest)
		}
	}
}

// 14.2: the power goes, at each operation.
func TestOpenWithoutPower(t *testing.T) {
	for what, f := range map[string]files{"no topics": catalogue(7).with(strangers()), "topics": littered(t).with(strangers()), "topics alone": lived(t)} {
		for fuse := 0; ; fuse++ {
			d, other := holding(t, f), holding(t, f)
			d.Fuse(fuse)
			other.Fuse(fuse)
			c, e := catalog.Open(d, usual(), 0)
			_, e2 := slowOpen(other, usual(), 0)
			want(t, what+": Open", e, e2)
			alike(t, what, d, other)
			if e == api.OK {
				want(t, what+": a catalog", c != nil, true)
				want(t, what+": operations", d.Ops(), fuse)
				break
			}
			wantRefused(t, what, c, e, api.ErrDead)
		}
	}
}

// R1; 14.3 to 14.6 of a nil catalog, and of one that was not made by Format or Open.
func TestNilCatalogs(t *testing.T) {
	for what, c := range map[string]*catalog.Catalog{"nil": nil, "zero": {}} {
		for range 2 {
			for _, name := range []string{"", "a", "A"} {
				wantCreate(t, what, c, name, 0, 0, 0, api.ErrNil)
				wantCreate(t, what, c, name, -1, -1, 0, api.ErrNil)
				want(t, what+": Drop", c.Drop(name), api.ErrNil)
				p, e := c.Topic(name)
				want(t, what+": Topic", fmt.Sprint(p == nil, e), "true 1")
				want(t, what+": Names", len(slices.Collect(c.Names(name))), 0)
			}
			for _, id := range []int{-1, 0, 1} {
				p, e := c.ById(id)
				want(t, what+": ById", fmt.Sprint(p == nil, e), "true 1")
			}
			want(t, what+": List", len(c.List()), 0)
		}
	}
}
