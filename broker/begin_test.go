package broker_test

import (
	"fmt"
	"math"
	"slices"
	"strings"
	"testing"

	"chronicle/api"
	"chronicle/broker"
	"chronicle/catalog"
	"chronicle/group"
	"chronicle/manifest"
	"chronicle/probe"
	"chronicle/simfs"
	"chronicle/topic"
)

// configs is configs with each of their numbers at its edges, and whether they may be.
func configs() map[api.Config]bool {
	all := map[api.Config]bool{usual(): true}
	add := func(ok bool, change func(*api.Config)) {
		cfg := api.Config{Limit: 300, Horizon: 7, Share: 20, Num: 3, Den: 4, Burst: 5}
		change(&cfg)
		all[cfg] = ok
		if cfg.Num == 3 && cfg.Den == 4 && cfg.Burst == 5 {
			cfg.Num, cfg.Den, cfg.Burst = 0, 0, 0
			all[cfg] = ok
		}
	}
	for n, ok := range map[int]bool{math.MinInt: false, -256: false, 0: false, 255: false, 256: true, 257: true, 65535: true, 65536: true, 65537: false, math.MaxInt: false} {
		add(ok, func(cfg *api.Config) { cfg.Limit = n })
	}
	for n, ok := range map[int64]bool{math.MinInt64: false, -1: false, 0: true, 1: true, horizons - 1: true, horizons: true, horizons + 1: false, math.MaxInt64: false} {
		add(ok, func(cfg *api.Config) { cfg.Horizon = n })
	}
	for n, ok := range map[int]bool{math.MinInt: false, -1: false, 0: false, 1: true, 2: true, 99: true, 100: true, 101: false, math.MaxInt: false} {
		add(ok, func(cfg *api.Config) { cfg.Share = n })
	}
	for n, ok := range map[int64]bool{math.MinInt64: false, -1: false, 0: false, 1: true, 1 << 20: true, 1<<30 - 1: true, 1 << 30: true, 1<<30 + 1: false, math.MaxInt64: false} {
		add(ok, func(cfg *api.Config) { cfg.Num = n })
		add(ok, func(cfg *api.Config) { cfg.Burst = n })
		add(ok && n <= 1<<20, func(cfg *api.Config) { cfg.Den = n })
	}
	add(true, func(cfg *api.Config) { cfg.Den = 1<<20 - 1 })
	add(false, func(cfg *api.Config) { cfg.Den = 1<<20 + 1 })
	for _, some := range [][3]int64{{1, 0, 0}, {0, 1, 0}, {0, 0, 1}, {1, 1, 0}, {1, 0, 1}, {0, 1, 1}, {-1, 0, 0}, {0, -1, 0}, {0, 0, -1}, {-1, -1, -1}} {
		add(false, func(cfg *api.Config) { cfg.Num, cfg.Den, cfg.Burst = some[0], some[1], some[2] })
	}
	add(true, func(cfg *api.Config) { cfg.Num, cfg.Den, cfg.Burst = 1, 1, 1 })
	add(false, func(cfg *api.Config) { *cfg = api.Config{} })
	return all
}

// times is times at the edges, and whether they may be.
func times() map[int64]bool {
	return map[int64]bool{math.MinInt64: false, -1: false, 0: true, 1: true, lastTime - 1: true, lastTime: true, lastTime + 1: false, math.MaxInt64: false}
}

// 20.1, 20.3, 20.4
func TestConfigsAndTimes(t *testing.T) {
	for cfg, ok := range configs() {
		for now, is := range times() {
			what, wanted := fmt.Sprintf("%+v at %d", cfg, now), api.OK
			switch {
			case !ok:
				wanted = api.ErrConfig
			case !is:
				wanted = api.ErrArg
			}
			want(t, what+": Format of nil", broker.Format(nil, cfg, now), api.ErrNil)
			b, e := broker.Open(nil, cfg, now)
			wantRefused(t, what+": Open of nil", b, e, api.ErrNil)
			d, _ := simfs.New(wide)
			want(t, what+": Format", broker.Format(d, cfg, now), wanted)
			if wanted != api.OK {
				want(t, what+": files", len(d.Image()), 0)
				b, e := broker.Open(d, cfg, now)
				wantRefused(t, what+": Open of nothing", b, e, wanted)
				want(t, "Format", broker.Format(d, usual(), 0), api.OK)
				undone(t, what, d, func() {
					b, e := broker.Open(d, cfg, now)
					wantRefused(t, what+": Open", b, e, wanted)
					want(t, what+": Format of a store", broker.Format(d, cfg, now), wanted)
				})
				unpower(t, d)
				b, e = broker.Open(d, cfg, now)
				wantRefused(t, what+": Open without power", b, e, wanted)
				want(t, what+": Format without power", broker.Format(d, cfg, now), wanted)
				continue
			}
			b, e = broker.Open(d, cfg, now)
			if b == nil || e != api.OK {
				t.Errorf("%s: Open: %v, %d", what, b, e)
			}
		}
	}
}

// wantRefused fails unless there is no broker, but an error.
func wantRefused(t *testing.T, what string, b *broker.Broker, e, wanted api.Errno) {
	t.Helper()
	if b != nil || e != wanted {
		t.Errorf("%s: %v, %d, want nil, %d", what, b, e, wanted)
	}
}

// left is what a store may leave on a disk, but for a catalogue.
func left() files {
	return files{
		"catalog.tmp": "A", "t0.1.seg": "B", "t0.man": "C", "t0.man.tmp": "D", "t0.7.hint": "", "t1.1.seg": "E", "t3.2.hint.tmp": "F",
		"t5.1.seg.tmp": "G", "t41.man": "H", "t1073741823.1073741823.hint": "I", "t1073741823.man": "",
	}
}

// others is files of no store.
func others() files {
	return files{"x": "a", "t03.man": "b", "t3.seg": "c", "t0.0.seg": "d", "catalog.tmp.tmp": "e", "catalogue": "f", "t.man": "", "t3.man.tmp.tmp": "g", "t1073741824.man": "h", "t0.1.seg.x": "i"}
}

// slowFormat is Format as the chapter tells it, on a disk that has no catalogue.
func slowFormat(d *simfs.Disk, cfg api.Config, now int64) api.Errno {
	names, e := d.List()
	if e != api.OK {
		return e
	}
	var ours []string
	for _, name := range names {
		if manifest.Parse(name).Kind != api.NOther {
			ours = append(ours, name)
		}
	}
	for _, name := range ours {
		if e := d.Remove(name); e != api.OK {
			return e
		}
	}
	if len(ours) > 0 {
		if e := d.SyncDir(); e != api.OK {
			return e
		}
	}
	if _, e := topic.Create(d, 0, 65536, 0, now); e != api.OK {
		return e
	}
	_, e = catalog.Format(d, cfg)
	return e
}

// 20.3
func TestFormat(t *testing.T) {
	empty := files{}
	for what, f := range map[string]files{
		"an empty disk":                {},
		"what a Format has left":       left(),
		"one file of a store":          {"t9.man": "x"},
		"files of no store":            others(),
		"files of both kinds":          left().with(others()),
		"a catalogue that is half way": {"catalog.tmp": "x"},
	} {
		d, other := loaded(t, f.image()), loaded(t, f.image())
		want(t, what, broker.Format(d, usual(), 5), api.OK)
		want(t, what+": slowly", slowFormat(other, usual(), 5), api.OK)
		alike(t, what, d, other)
		for name := range others() {
			want(t, what+": "+name, filesOf(d.Image())[name], f[name])
		}
		wanted := []string{"catalog", "t0.1.seg", "t0.man"}
		for name := range f {
			if _, stays := others()[name]; stays {
				wanted = append(wanted, name)
			}
		}
		slices.Sort(wanted)
		wantList(t, what+": files", filesOf(d.Image()).names(), wanted)
		want(t, what+": durable", probe.Key(d.Crash(nil)), probe.Key(d.Image()))
		k := over(t, d, usual())
		k.wantTopics(what)
		k.wantState(what, 0, 0, 0, 0)
		if len(empty) == 0 {
			empty = filesOf(d.Image())
		}
		for _, name := range []string{"catalog", "t0.1.seg", "t0.man"} {
			want(t, what+": "+name, filesOf(d.Image())[name], empty[name])
		}
	}
}

// What stands under the catalogue's name does not matter.
func TestFormatOfAStore(t *testing.T) {
	good, _ := simfs.New(wide)
	want(t, "Format", broker.Format(good, usual(), 0), api.OK)
	for what, f := range map[string]files{
		"a store":       filesOf(good.Image()),
		"no catalogue":  left().with(files{"catalog": "x"}),
		"an empty file": {"catalog": ""},
	} {
		d := loaded(t, f.image())
		undone(t, what, d, func() { want(t, what, broker.Format(d, usual(), 0), api.ErrStore) })
		d.SetQuota(0)
		want(t, what+": no room", broker.Format(d, usual(), 0), api.ErrStore)
		unpower(t, d)
		want(t, what+": no power", broker.Format(d, usual(), 0), api.ErrDead)
	}
	d, _ := simfs.New(wide)
	unpower(t, d)
	want(t, "an empty disk without power", broker.Format(d, usual(), 0), api.ErrDead)
}

// 20.3: a disk that is too small, or has too many files.
func TestFormatWithoutRoom(t *testing.T) {
	whole, _ := simfs.New(wide)
	want(t, "Format", broker.Format(whole, usual(), 0), api.OK)
	for room := range whole.Used() + 1 {
		d, other := loaded(t, left().image()), loaded(t, left().image())
		d.SetQuota(room)
		other.SetQuota(room)
		wanted := api.ErrSpace
		if room == whole.Used() {
			wanted = api.OK
		}
		want(t, fmt.Sprint("room for ", room), broker.Format(d, usual(), 0), wanted)
		want(t, "slowly", slowFormat(other, usual(), 0), wanted)
		alike(t, fmt.Sprint("room for ", room), d, other)
		if wanted == api.OK {
			continue
		}
		b, e := broker.Open(d, usual(), 0)
		wantRefused(t, "Open", b, e, api.ErrNone)
		d.SetQuota(wide)
		want(t, "once more", broker.Format(d, usual(), 0), api.OK)
	}
	want(t, "a disk that nobody made", broker.Format(&simfs.Disk{}, usual(), 0), api.ErrSpace)
}

// 20.3, 20.4: the power goes in the midst; behind that Format can be done again.
func TestFormatWithoutPower(t *testing.T) {
	for _, f := range []files{{}, left().with(others())} {
		whole := loaded(t, f.image())
		want(t, "Format", broker.Format(whole, usual(), 0), api.OK)
		for fuse := range whole.Ops() {
			d := loaded(t, f.image())
			d.Fuse(fuse)
			want(t, fmt.Sprint("a fuse of ", fuse), broker.Format(d, usual(), 0), api.ErrDead)
			b, e := broker.Open(d, usual(), 0)
			wantRefused(t, "without power", b, e, api.ErrDead)
			for _, image := range probe.Leavings(d) {
				again := loaded(t, image)
				_, stands := filesOf(image)["catalog"]
				b, e := broker.Open(again, usual(), 0)
				formatted := broker.Format(again, usual(), 0)
				if stands {
					want(t, "all of it: Format", formatted, api.ErrStore)
				} else {
					wantRefused(t, "some of it", b, e, api.ErrNone)
					want(t, "some of it: Format", formatted, api.OK)
				}
				k := over(t, again, usual())
				k.wantState("behind that", 0, 0, 0, 0)
				want(t, "durable", probe.Key(again.Crash(nil)), probe.Key(again.Image()))
			}
		}
	}
}

// 20.2
func TestGroupsOwnTopic(t *testing.T) {
	k := served(t, 1)
	for i := range 40 {
		k.ask(1, join(fmt.Sprint("g", i)), did(1, 0, api.OpJoin, -1))
	}
	k.settle(1)
	if size := len(filesOf(k.d.Image())["t0.1.seg"]); size < 512 {
		t.Errorf("its segment has %d bytes: the config's limit is not its own", size)
	}
	k.wantTopics("the groups' own topic")
	k.wantState("the groups' own topic", 1, 0, 0, 0)
	k.answered(1, 0, api.Request{Op: api.OpList}, api.Response{})
	for _, name := range []string{"", "0", "t0", "groups", "_groups", "t0.man"} {
		k.answered(1, 0, get(name, "g.g1"), api.Response{Code: api.CodeNoTopic})
		k.answered(1, 0, drop(name), api.Response{Code: api.CodeNoTopic})
		_, e := k.b.Records(name)
		want(t, "Records("+name+")", e, api.ErrNoTopic)
	}
	k.answered(1, 1, create("first"), api.Response{Number: 1})
	// Its limit and its horizon are what a topic of that number is opened with.
	for _, cfg := range []api.Config{{Limit: 256, Horizon: horizons, Share: 1}, {Limit: 65536, Share: 100}} {
		b, e := broker.Open(copied(t, k.d), cfg, 0)
		if b == nil || e != api.OK {
			t.Errorf("Open with %+v: %d", cfg, e)
		}
	}
}

// 20.2: its horizon is 0, so that a merge takes its tombstones out at once; and its segments hold 65536 bytes.
func TestGroupsOwnTopicIsMerged(t *testing.T) {
	k := served(t, 1, "t", "u")
	k.ask(1, join("g"), did(1, 0, api.OpJoin, -1))
	k.ask(1, reach("g", "u", 1, 0), did(1, 2, api.OpCommit, -1))
	k.ask(1, drop("u"), did(1, 2, api.OpDrop, api.CodeOK))
	k.b.Out(1, wide)
	for n := uint32(1); filesOf(k.d.Image())["t0.2.seg"] == ""; n++ {
		k.ask(1, id(n, reach("g", "t", 1, 0)), did(1, 1, api.OpCommit, -1))
		list, _ := read(k.all(1))
		for _, a := range list {
			want(t, "an answer ahead of its commit, though others are rolled", a.Id < n, true)
		}
	}
	if n := len(filesOf(k.d.Image())["t0.1.seg"]); n > 65536 || n < 65536-100 {
		t.Errorf("a segment of %d bytes", n)
	}
	k.settle(1)
	k.fill(1, 1, "t", "k", 5)
	// Of several that are due it is merged first: its number is the lowest.
	again := over(t, copied(t, k.d), usual())
	again.step(api.ClMerge, merged(0, api.MgMake))
	again.step(api.ClMerge, merged(1, api.MgDrop))
	again.step(api.ClMerge, merged(0, api.MgKeep))
	tombs := 0
	for range 9000 {
		d, e := k.b.Step(0, api.ClMerge)
		want(t, "Step", e, api.OK)
		if d.What == api.DidMerge && d.Kind == api.MgTomb {
			want(t, "its number", d.Topic, 0)
			tombs++ // a tombstone of t's would be young
		}
		if d.What == api.DidNothing {
			break
		}
	}
	want(t, "tombstones that are left out", tombs, 1)
	k.wantState("at rest", 1, 1, 0, 0)
	k.answered(1, 1, position("g", "t"), api.Response{})
}

// grown is the files of a store in which much has been done: topics a (1), c (3), groups, sealed segments, and a merge that is half way.
func grown(t *testing.T) files {
	t.Helper()
	k := served(t, 1, "a", "b", "c")
	k.fill(1, 1, "a", "k", 9)
	k.ask(1, join("g"), did(1, 0, api.OpJoin, -1))
	k.ask(1, reach("g", "a", 1, 4), did(1, 1, api.OpCommit, -1))
	k.write(1, 3, "c", "k", "v")
	k.settle(1)
	k.ask(1, drop("b"), did(1, 2, api.OpDrop, api.CodeOK))
	for range 9 {
		k.b.Step(0, api.ClMerge)
	}
	want(t, "a merge", k.b.State().Merges, 1)
	return filesOf(k.d.Image())
}

// 20.4
func TestOpen(t *testing.T) {
	f := grown(t)
	d := loaded(t, f.with(files{"catalog.tmp": "x", "t2.man": "y", "t77.1.seg": "z", "other": "o"}).image())
	k := over(t, d, usual())
	k.wantTopics("opened", "a", "c")
	k.wantState("opened", 0, 2, 0, 0)
	want(t, "other files", filesOf(d.Image())["other"], "o")
	for _, name := range []string{"catalog.tmp", "t2.man", "t77.1.seg"} {
		if _, there := filesOf(d.Image())[name]; there {
			t.Errorf("%s is there still", name)
		}
	}
	want(t, "the first number", k.connect(), 1)
	k.answered(1, 1, stat("a"), api.Response{Offset: 9})
	k.answered(1, 1, position("g", "a"), api.Response{Offset: 4})
	k.answered(1, 4, create("d"), api.Response{Number: 4})
	empty, _ := simfs.New(wide)
	b, e := broker.Open(empty, usual(), 0)
	wantRefused(t, "an empty disk", b, e, api.ErrNone)
	unpower(t, empty)
	b, e = broker.Open(empty, usual(), 0)
	wantRefused(t, "an empty disk without power", b, e, api.ErrDead)
	unpower(t, d)
	b, e = broker.Open(d, usual(), 0)
	wantRefused(t, "without power", b, e, api.ErrDead)
	b, e = broker.Open(loaded(t, left().with(others()).image()), usual(), 0)
	wantRefused(t, "an unfinished Format", b, e, api.ErrNone)
	b, e = broker.Open(&simfs.Disk{}, usual(), 0)
	wantRefused(t, "a disk that nobody made", b, e, api.ErrNone)
}

// laid is the bytes of the groups' topic with a record of this key.
func laid(t *testing.T, key string) files {
	t.Helper()
	d, _ := simfs.New(wide)
	p, _ := topic.Create(d, 0, 65536, 0, 0)
	_, _, e := p.Append(0, api.Write{Key: key, Value: "\x01"})
	want(t, "Append", e, api.OK)
	want(t, "Commit", p.Commit(), api.OK)
	return filesOf(d.Image())
}

// 20.4: the first error is the answer.
func TestOpenOfDamage(t *testing.T) {
	good := served(t, 1, "a")
	good.write(1, 1, "a", "k", "v")
	good.commit(1)
	f := filesOf(good.d.Image())
	for what, c := range map[string]struct {
		files files
		e     api.Errno
	}{
		"a good one":             {f, api.OK},
		"no catalogue":           {f.with(files{"catalog": "x"}), api.ErrDamaged},
		"a topic without files":  {f.with(files{"t1.man": ""}), api.ErrTopic},
		"no segment":             {f.with(files{"t1.1.seg": ""}), api.ErrTopic},
		"the groups' manifest":   {f.with(files{"t0.man": "x"}), api.ErrTopic},
		"the groups' segment":    {f.with(files{"t0.1.seg": "x"}), api.ErrTopic},
		"a record of no group":   {f.with(laid(t, "x")), api.ErrDamaged},
		"a record of a group":    {f.with(laid(t, "g.a")), api.OK},
		"both":                   {f.with(files{"catalog": "x", "t0.man": "x"}), api.ErrDamaged},
		"the topics come first":  {f.with(laid(t, "x")).with(files{"t1.man": ""}), api.ErrTopic},
		"a catalogue of nothing": {f.with(files{"catalog": ""}), api.ErrDamaged},
	} {
		b, e := broker.Open(loaded(t, c.files.image()), usual(), 0)
		if c.e != api.OK {
			wantRefused(t, what, b, e, c.e)
			continue
		}
		want(t, what, e, api.OK)
	}
	for _, name := range []string{"t0.man", "t0.1.seg", "t1.man", "t1.1.seg"} {
		some := f.with(nil)
		delete(some, name)
		b, e := broker.Open(loaded(t, some.image()), usual(), 0)
		wantRefused(t, "without "+name, b, e, api.ErrTopic)
	}
}

// slowOpen opens all that Open opens, in its order, and tells the first error.
func slowOpen(d *simfs.Disk, cfg api.Config, now int64) api.Errno {
	if _, e := d.Size("catalog"); e == api.ErrNoFile {
		return api.ErrNone
	}
	if _, e := catalog.Open(d, cfg, now); e != api.OK {
		return e
	}
	p, e := topic.Open(d, 0, 65536, 0, now)
	if e != api.OK {
		return e
	}
	_, e = group.New(p)
	return e
}

// 20.4: the power goes in the midst.
func TestOpenWithoutPower(t *testing.T) {
	f := grown(t).with(files{"catalog.tmp": "x", "t2.man": "y", "t0.9.seg": "z", "t1.man.tmp": "o"})
	f["t0.1.seg"] += "torn"
	whole := loaded(t, f.image())
	over(t, whole, usual())
	if whole.Ops() < 10 {
		t.Fatalf("only %d operations", whole.Ops())
	}
	for fuse := range whole.Ops() {
		d, other := loaded(t, f.image()), loaded(t, f.image())
		d.Fuse(fuse)
		other.Fuse(fuse)
		b, e := broker.Open(d, usual(), 0)
		wantRefused(t, fmt.Sprint("a fuse of ", fuse), b, e, api.ErrDead)
		want(t, "slowly", slowOpen(other, usual(), 0), api.ErrDead)
		alike(t, fmt.Sprint("a fuse of ", fuse), d, other)
		for _, image := range probe.Leavings(d) {
			k := over(t, loaded(t, image), usual())
			k.wantTopics("behind that", "a", "c")
			k.connect()
			k.answered(1, 1, position("g", "a"), api.Response{Offset: 4})
			k.answered(1, 1, stat("a"), api.Response{Offset: 9})
		}
	}
}

// 20.4: the clock is the time of Open, and only rises (20.10).
func TestClock(t *testing.T) {
	k := served(t, 0)
	b, e := broker.Open(k.d, usual(), 50)
	want(t, "Open", e, api.OK)
	k.b = b
	k.connect()
	k.now = 7
	k.ask(1, create("t"), did(1, 1, api.OpCreate, api.CodeOK))
	for i, now := range []int64{7, 60, 55, lastTime, 0} {
		k.now = now
		k.write(1, 1, "t", fmt.Sprint("k", i), strings.Repeat("v", i))
	}
	k.now = 0
	k.commit(1)
	var got []int64
	recs, _ := k.b.Records("t")
	for _, r := range recs {
		got = append(got, r.Time)
	}
	wantList(t, "times", got, []int64{50, 60, 60, lastTime, lastTime})
}
