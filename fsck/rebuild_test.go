package fsck_test

import (
	"fmt"
	"slices"
	"strings"
	"testing"

	"chronicle/api"
	"chronicle/fsck"
	"chronicle/manifest"
	"chronicle/simfs"
)

// wantRebuilt fails unless Rebuild of some files makes just these others.
func wantRebuilt(t *testing.T, what string, f, made files) {
	t.Helper()
	to := rebuilt(t, what, f, usual())
	wantFiles(t, what, to.Image(), made)
	for _, picks := range [][]int{nil, {1, 1, 1}, {2, 1, 1, 1}, {3}} {
		wantFiles(t, what+", behind a crash", to.Crash(picks), made)
	}
}

// 21.3
func TestRebuildRefused(t *testing.T) {
	full, free := func() *simfs.Disk { return holding(t, whole()) }, func() *simfs.Disk { return holding(t, nil) }
	other := func() *simfs.Disk { return holding(t, files{"x": ""}) }
	dead := func() *simfs.Disk { return unpowered(t, whole()) }
	deadFree := func() *simfs.Disk { return unpowered(t, nil) }
	none := func() *simfs.Disk { return nil }
	bad := api.Config{Limit: 255, Horizon: 100}
	for i, c := range []struct {
		from, to func() *simfs.Disk
		cfg      api.Config
		e        api.Errno
	}{
		{none, none, bad, api.ErrNil}, {none, free, bad, api.ErrNil}, {full, none, bad, api.ErrNil}, {dead, none, usual(), api.ErrNil}, {none, dead, usual(), api.ErrNil},
		{full, free, bad, api.ErrConfig}, {dead, dead, bad, api.ErrConfig}, {full, full, bad, api.ErrConfig},
		{full, free, api.Config{}, api.ErrConfig}, {full, free, api.Config{Limit: 65537}, api.ErrConfig},
		{full, free, api.Config{Limit: -256}, api.ErrConfig},
		{full, free, api.Config{Limit: 256, Horizon: -1}, api.ErrConfig}, {full, free, api.Config{Limit: 256, Horizon: horizons + 1}, api.ErrConfig},
		{dead, free, usual(), api.ErrDead}, {dead, deadFree, usual(), api.ErrDead}, {dead, full, usual(), api.ErrDead},
		{full, deadFree, usual(), api.ErrDead}, {full, dead, usual(), api.ErrDead},
		{full, full, usual(), api.ErrExists}, {full, other, usual(), api.ErrExists}, {free, other, usual(), api.ErrExists},
	} {
		from, to := c.from(), c.to()
		var key string
		if to != nil {
			key = sight(to)
		}
		looking(t, fmt.Sprint(i), from, func() {
			list, e := fsck.Rebuild(from, to, c.cfg)
			want(t, fmt.Sprint("Rebuild ", i), fmt.Sprint(list, e), fmt.Sprint([]api.Finding(nil), c.e))
		})
		want(t, "operations", to.Ops(), 0)
		want(t, "nothing is changed", to == nil || sight(to) == key, true)
	}
	d := full()
	_, e := fsck.Rebuild(d, d, usual())
	want(t, "onto itself", e, api.ErrExists)
	want(t, "onto itself: operations", d.Ops(), 0)
}

// Of the config only the limit and the horizon are looked at.
func TestConfigsThatMayBe(t *testing.T) {
	for _, cfg := range []api.Config{{Limit: 256}, {Limit: 65536, Horizon: horizons}, {Limit: 300, Horizon: 1, Share: -5, Num: -1, Den: -2, Burst: -3}} {
		to := rebuilt(t, fmt.Sprint(cfg), files{"t2.1.seg": ""}, cfg)
		c, _ := manifest.LoadCatalogue(to)
		want(t, "the catalogue", fmt.Sprint(c), fmt.Sprint(api.Catalogue{NextId: 3, Topics: []api.TopicEntry{{Id: 2, Name: "lost-2", Limit: cfg.Limit, Horizon: cfg.Horizon}}}))
	}
}

// made is the files of a topic that has been made anew; the manifest has the numbers 1, 2, 3 .. for its segments.
func made(m api.Manifest, shelves ...shelf) files {
	for i := range shelves {
		shelves[i].number = i + 1
		shelves[i].sealed = i < len(shelves)-1
	}
	return stored(m, shelves...)
}

func TestRebuildOfWhatIsWhole(t *testing.T) {
	all := files{"catalog": whole()["catalog"]}
	all = all.and(made(api.Manifest{Id: 0, Next: 2, Clock: 7}, open(0, recsOfGroups()...))).
		and(made(api.Manifest{Id: 1, Next: 3, Clock: 7}, open(0, recsOfB()...))).
		and(made(api.Manifest{Id: 3, Next: 8, Mark: 2, Clock: 60, Prods: []api.Prod{{Pid: 1, Seq: 4, Off: 6}, {Pid: 9, Seq: 1, Off: 5}}}, open(0, recsOfThree()...))).
		and(made(api.Manifest{Id: 4}, open(0)))
	wantRebuilt(t, "whole", whole(), all)
	wantRebuilt(t, "whole, beside others", whole().and(others()), all)
	wantRebuilt(t, "formatted alone", files{"catalog": catalogue(1)}, files{"catalog": catalogue(1)})
	wantRebuilt(t, "topics that are gone", files{"catalog": catalogue(55)}, files{"catalog": catalogue(55)})
	wantRebuilt(t, "an empty disk", nil, files{"catalog": catalogue(1)})
	wantRebuilt(t, "others", others(), files{"catalog": catalogue(1)})
	wantRebuilt(t, "a store made anew", all, all)
}

// To a new store belongs what was saved, or is in the catalogue; and no more.
func TestRebuiltNumbers(t *testing.T) {
	f := files{"catalog": catalogue(9, entry(7, "x"))}
	wantRebuilt(t, "a topic without files", f, f.and(made(api.Manifest{Id: 7}, open(0))))
	wantRebuilt(t, "a topic with an empty file", f.with("t7.5.seg", ""), f.and(made(api.Manifest{Id: 7}, open(0))))
	old := manOf(api.Manifest{Id: 7, NextSeg: 6, Next: 40, Mark: 30, Clock: 20, Segs: []int{5}, Prods: []api.Prod{{Pid: 2, Seq: 9, Off: 39}}})
	again := made(api.Manifest{Id: 7, Next: 40, Mark: 30, Clock: 20, Prods: []api.Prod{{Pid: 2, Seq: 9, Off: 39}}}, open(0))
	wantRebuilt(t, "a topic with a manifest alone", f.with("t7.man", old), f.and(again))
	for _, name := range []string{"t0.man", "t0.1.hint", "t0.1.seg.tmp", "t8.man", "t8.1.hint", "t8.man.tmp", "t8.1.seg.tmp"} {
		wantRebuilt(t, name, f.with(name, ""), f.and(made(api.Manifest{Id: 7}, open(0))))
	}
	wantRebuilt(t, "the groups' own topic", files{"t0.8.seg": ""}, made(api.Manifest{Id: 0}, open(0)).with("catalog", catalogue(1)))
	groups := files{"t0.8.seg": bytesOf(put(3, "g", "v")), "t0.man": manOf(api.Manifest{Id: 0, NextSeg: 9, Next: 3, Mark: 1, Clock: 77, Segs: []int{8}})}
	wantRebuilt(t, "the groups' own topic, with a manifest", groups, made(api.Manifest{Id: 0, Next: 4, Mark: 1, Clock: 77}, open(0, put(3, "g", "v"))).with("catalog", catalogue(1)))
}

// A new segment is begun where a record has no room, by the limit of the topic.
func TestRebuiltSegments(t *testing.T) {
	// Behind the head of 21 bytes, ahead of a tail of 17, there is room for 218 bytes.
	fill := []api.Record{sized(4, 100), sized(6, 118)}
	small := put(9, "k", "")
	in := func(limit int, recs ...api.Record) files {
		c := catalogue(4, api.TopicEntry{Id: 3, Name: "a", Limit: limit, Horizon: 5})
		return stored(api.Manifest{Id: 3}, open(6, recs...)).with("catalog", c)
	}
	m := api.Manifest{Id: 3, Next: 7, Clock: 7}
	cat := func(limit int) string { return in(limit)["catalog"] }
	wantRebuilt(t, "just full", in(256, fill...), made(m, open(0, fill...)).with("catalog", cat(256)))
	wide := []api.Record{sized(4, 100), sized(6, 119)}
	wantRebuilt(t, "a byte too much", in(256, wide...), made(m, open(0, wide[0]), open(0, wide[1])).with("catalog", cat(256)))
	wantRebuilt(t, "a byte too much, under another limit", in(257, wide...), made(m, open(0, wide...)).with("catalog", cat(257)))
	m.Next = 10
	wantRebuilt(t, "one more", in(256, fill[0], fill[1], small), made(m, open(0, fill...), open(0, small)).with("catalog", cat(256)))
	// A record of any size has room where there is no other.
	huge := []api.Record{sized(0, 1000), sized(1, 1000), put(2, "s", ""), sized(3, 1000), put(9, "t", "")}
	wantRebuilt(t, "huge ones", in(256, huge...), made(m, open(0, huge[0]), open(0, huge[1]), open(0, huge[2]), open(0, huge[3]), open(0, huge[4])).with("catalog", cat(256)))
	wantRebuilt(t, "huge ones, under the greatest limit", in(65536, huge...), made(m, open(0, huge...)).with("catalog", cat(65536)))
	// Without a catalogue the config's limit counts; for the groups' own topic always the greatest.
	lost := made(api.Manifest{Id: 3, Next: 7, Clock: 7}, open(0, wide[0]), open(0, wide[1])).with("catalog", catalogue(4, entry(3, "lost-3")))
	wantRebuilt(t, "the config's limit", in(300, wide...).without("catalog"), lost)
	groups := stored(api.Manifest{Id: 0}, open(3, huge...)).with("catalog", catalogue(4))
	m.Id = 0
	wantRebuilt(t, "the groups' own topic", groups, made(m, open(0, huge...)).with("catalog", catalogue(4)))
}

// What the manifest says, and what the records do.
func TestRebuiltManifests(t *testing.T) {
	recs := []api.Record{at(50, put(3, "a", "")), at(90, put(7, "b", "")), at(60, gone(9, "a"))}
	for i, c := range []struct{ old, new api.Manifest }{
		{api.Manifest{Next: 4, Mark: 2, Clock: 30}, api.Manifest{Next: 10, Mark: 2, Clock: 90}},
		{api.Manifest{Next: 10, Mark: 0, Clock: 90}, api.Manifest{Next: 10, Mark: 0, Clock: 90}},
		{api.Manifest{Next: 11, Mark: 11, Clock: 91}, api.Manifest{Next: 11, Mark: 11, Clock: 91}},
		{api.Manifest{Next: 1 << 40, Mark: 1 << 40, Clock: lastTime}, api.Manifest{Next: 1 << 40, Mark: 1 << 40, Clock: lastTime}},
	} {
		c.old.Id, c.new.Id = 3, 3
		f := stored(c.old, open(1, recs...)).with("catalog", catalogue(4, entry(3, "a")))
		wantRebuilt(t, fmt.Sprint("manifest ", i), f, made(c.new, open(0, recs...)).with("catalog", f["catalog"]))
	}
	f := one(api.Manifest{Next: 100, Mark: 5, Clock: 1000}, open(1, recs...))
	m := api.Manifest{Id: 3, Next: 10, Mark: 10, Clock: 90}
	for what, g := range damages(f, "t3.man") {
		wantRebuilt(t, "the manifest is "+what, g, made(m, open(0, recs...)).with("catalog", f["catalog"]))
	}
	wantRebuilt(t, "no manifest and no records", files{"t3.1.seg": ""}, made(api.Manifest{Id: 3}, open(0)).with("catalog", catalogue(4, entry(3, "lost-3"))))
	last := open(1, at(lastTime, of(1<<32-1, lastOffset, put(lastOffset, "k", ""))))
	end := api.Manifest{Id: 3, Next: 1 << 40, Mark: 1 << 40, Clock: lastTime, Prods: []api.Prod{{Pid: 1<<32 - 1, Seq: lastOffset, Off: lastOffset}}}
	wantRebuilt(t, "the greatest numbers", files{"t3.1.seg": last.bytes(3)}, made(end, last).with("catalog", catalogue(4, entry(3, "lost-3"))))
}

func TestRebuiltProducers(t *testing.T) {
	old := []api.Prod{{Pid: 1, Seq: 5, Off: 2}, {Pid: 2, Seq: 5, Off: 3}, {Pid: 3, Seq: 5, Off: 4}, {Pid: 4, Seq: 1, Off: 0}}
	recs := []api.Record{
		of(1, 4, put(5, "a", "")), // the manifest's is higher
		of(2, 6, put(6, "a", "")), // the record's is
		of(3, 5, put(7, "a", "")), // both are the same
		of(5, 9, put(8, "a", "")), // of the records alone, which fall
		of(5, 7, put(9, "a", "")),
		of(5, 9, put(10, "a", "")),
		put(11, "a", ""),
		of(7, 1, put(12, "a", "")),
		of(7, 2, gone(13, "a")),
	}
	wanted := []api.Prod{{Pid: 1, Seq: 5, Off: 2}, {Pid: 2, Seq: 6, Off: 6}, {Pid: 3, Seq: 5, Off: 4}, {Pid: 4, Seq: 1, Off: 0}, {Pid: 5, Seq: 9, Off: 8}, {Pid: 7, Seq: 2, Off: 13}}
	f := one(api.Manifest{Next: 5, Prods: old}, open(1, recs...))
	wantRebuiltAs := func(what string, f files, m api.Manifest) {
		t.Helper()
		to := rebuilt(t, what, f, usual())
		got, _ := manifest.Load(to, 3)
		wantList(t, what, got.Prods, m.Prods)
	}
	wantRebuiltAs("both", f, api.Manifest{Prods: wanted})
	wantRebuiltAs("the manifest alone", one(api.Manifest{Next: 5, Prods: old}, open(1)), api.Manifest{Prods: old})
	alone := []api.Prod{{Pid: 1, Seq: 4, Off: 5}, {Pid: 2, Seq: 6, Off: 6}, {Pid: 3, Seq: 5, Off: 7}, {Pid: 5, Seq: 9, Off: 8}, {Pid: 7, Seq: 2, Off: 13}}
	wantRebuiltAs("the records alone", f.cut("t3.man", 1), api.Manifest{Prods: alone})
	// Of too many the lowest Pids are kept, wherever they are told.
	var many []api.Prod
	var some []api.Record
	for i := range int64(64) {
		many = append(many, api.Prod{Pid: 10 + 2*i, Seq: 1, Off: 0})
		some = append(some, of(11+2*i, 1, put(i+1, "k", "")))
	}
	mixed := one(api.Manifest{Next: 1, Prods: many}, shut(1, some[:30]...), open(2, some[30:]...))
	var lowest []api.Prod
	for i := range int64(32) {
		lowest = append(lowest, many[i], api.Prod{Pid: 11 + 2*i, Seq: 1, Off: i + 1})
	}
	wantRebuiltAs("too many", mixed, api.Manifest{Prods: lowest})
	wantRebuiltAs("just as many as may be", mixed.without("t3.man"), api.Manifest{Prods: prodsOf(some)})
	more := append(some, of(1, 1, put(100, "k", "")))
	wantRebuiltAs("one more", files{"catalog": mixed["catalog"], "t3.1.seg": open(1, more...).bytes(3)}, api.Manifest{Prods: append([]api.Prod{{Pid: 1, Seq: 1, Off: 100}}, prodsOf(some[:63])...)})
}

func prodsOf(recs []api.Record) []api.Prod {
	var list []api.Prod
	for _, r := range recs {
		list = append(list, api.Prod{Pid: r.Pid, Seq: r.Seq, Off: r.Offset})
	}
	return list
}

// catalogueOf is the catalogue that a Rebuild of some files makes.
func catalogueOf(t *testing.T, what string, f files) api.Catalogue {
	t.Helper()
	c, e := manifest.LoadCatalogue(rebuilt(t, what, f, api.Config{Limit: 999, Horizon: 88}))
	want(t, what, e, api.OK)
	return c
}

func lost(id int, name string) api.TopicEntry {
	return api.TopicEntry{Id: id, Name: name, Limit: 999, Horizon: 88}
}

func TestNamesOfWhatWasLost(t *testing.T) {
	wantTopics := func(what string, f files, next int, topics ...api.TopicEntry) {
		t.Helper()
		want(t, what, fmt.Sprint(catalogueOf(t, what, f)), fmt.Sprint(api.Catalogue{NextId: next, Topics: topics}))
	}
	f := files{"t1.1.seg": "", "t12.1.seg": "", "t2.1.seg": ""}
	wantTopics("no catalogue", f, 13, lost(1, "lost-1"), lost(12, "lost-12"), lost(2, "lost-2"))
	wantTopics("a catalogue", f.with("catalog", catalogue(13, entry(12, "a"))), 13, entry(12, "a"), lost(1, "lost-1"), lost(2, "lost-2"))
	// Numbers that were given go on, and files may tell of higher ones.
	wantTopics("a high number", f.with("catalog", catalogue(500, entry(12, "a"))), 500, entry(12, "a"), lost(1, "lost-1"), lost(2, "lost-2"))
	wantTopics("a higher file", files{"catalog": catalogue(5), "t5.1.seg": ""}, 6, lost(5, "lost-5"))
	wantTopics("the highest file", files{"catalog": catalogue(5), "t1073741823.1.seg": ""}, 1<<30, lost(lastId, "lost-1073741823"))
	wantTopics("the groups' own topic alone", files{"t0.1.seg": ""}, 1)
	// Names that are there are not given again.
	g := files{"t2.1.seg": "", "t3.1.seg": "", "t23.1.seg": ""}
	taken := func(names ...string) string {
		var list []api.TopicEntry
		for i, name := range names {
			list = append(list, entry(30+i, name))
		}
		return catalogue(40, list...)
	}
	wantTopics("lost-2 is there", g.with("catalog", taken("lost-2")), 40, entry(30, "lost-2"), lost(2, "lost-2-1"), lost(23, "lost-23"), lost(3, "lost-3"))
	wantTopics("lost-2-1 is there", g.with("catalog", taken("lost-2-1")), 40, lost(2, "lost-2"), entry(30, "lost-2-1"), lost(23, "lost-23"), lost(3, "lost-3"))
	wantTopics("both are there", g.with("catalog", taken("lost-2", "lost-2-1", "lost-23", "lost-23-1", "lost-23-2", "lost-23-4")), 40,
		entry(30, "lost-2"), entry(31, "lost-2-1"), lost(2, "lost-2-2"), entry(32, "lost-23"), entry(33, "lost-23-1"), entry(34, "lost-23-2"), lost(23, "lost-23-3"), entry(35, "lost-23-4"), lost(3, "lost-3"))
	var all []string
	for i := range 15 {
		all = append(all, fmt.Sprint("lost-1073741823-", i+1))
	}
	slices.Sort(all)
	c := files{"t1.1.seg": "", "catalog": catalogue(1<<30, entries(append([]string{"lost-1073741823"}, all[:14]...), 10)...)}
	wantTopics("long names", c, 1<<30, append([]api.TopicEntry{lost(1, "lost-1")}, entries(append([]string{"lost-1073741823"}, all[:14]...), 10)...)...)
}

// entries is topics of such names, with numbers from one on.
func entries(names []string, from int) []api.TopicEntry {
	var list []api.TopicEntry
	for i, name := range names {
		list = append(list, entry(from+i, name))
	}
	return list
}

// Of too many numbers the lowest are kept, whether they have names or not; the groups' own one is not counted.
func TestTooManyNumbers(t *testing.T) {
	for _, c := range []struct {
		lost, named, from int
		groups            bool
	}{{16, 0, 0, true}, {17, 0, 0, false}, {17, 0, 0, true}, {40, 0, 0, true}, {3, 14, 100, true}, {3, 14, 0, false}, {1, 16, 100, true}, {1, 16, 0, true}, {17, 16, 100, false}} {
		f := files{}
		var topics []api.TopicEntry
		for i := range c.named {
			topics = append(topics, entry(c.from+50+i, fmt.Sprintf("n%02d", i)))
		}
		next := 1
		if c.named > 0 {
			next = 200
			f["catalog"] = catalogue(next, topics...)
		}
		if c.groups {
			f["t0.1.seg"] = ""
		}
		for i := range c.lost {
			id := 60 + i*2
			f[segName(id, 1)] = bytesOf(put(int64(i), "k", ""))
			next = max(next, id+1)
			if !slices.ContainsFunc(topics, func(e api.TopicEntry) bool { return e.Id == id }) { // its file is not all that is left of it
				topics = append(topics, lost(id, fmt.Sprint("lost-", id)))
			}
		}
		slices.SortFunc(topics, func(a, b api.TopicEntry) int { return a.Id - b.Id })
		wanted := slices.Clone(topics[:min(16, len(topics))])
		slices.SortFunc(wanted, func(a, b api.TopicEntry) int { return strings.Compare(a.Name, b.Name) })
		what := fmt.Sprint(c)
		to := rebuilt(t, what, f, api.Config{Limit: 999, Horizon: 88})
		got, _ := manifest.LoadCatalogue(to)
		want(t, what, fmt.Sprint(got), fmt.Sprint(api.Catalogue{NextId: next, Topics: wanted}))
		names, _ := to.List()
		most := 2*len(wanted) + 1
		if c.groups {
			most += 2
		}
		want(t, what+": files", len(names), most)
		wantList(t, what+": nothing is wrong", checked(t, what, to), nil)
	}
}

// More segments than a manifest may name.
func TestTooManySegments(t *testing.T) {
	var recs []api.Record
	for i := range int64(65) {
		recs = append(recs, sized(i, 200))
	}
	f := func(n int) files {
		return files{"catalog": catalogue(9, entry(3, "a"), entry(5, "b")), "t3.1.seg": open(1, recs[:n]...).bytes(3), "t5.1.seg": ""}
	}
	to := rebuilt(t, "64 segments", f(64), usual())
	m, _ := manifest.Load(to, 3)
	want(t, "64 segments", len(m.Segs), 64)
	from, to := holding(t, f(65)), holding(t, nil)
	list, e := fsck.Rebuild(from, to, usual())
	want(t, "65 segments", fmt.Sprint(list, e), fmt.Sprint([]api.Finding(nil), api.ErrManifest))
	_, e = manifest.LoadCatalogue(to)
	want(t, "65 segments: no store", e, api.ErrNoFile)
	want(t, "65 segments: operations on from", from.Ops(), 0)
}

// More files than a disk may have.
func TestTooManyFiles(t *testing.T) {
	f := files{}
	b := strings.Builder{}
	for i := range int64(33000) {
		b.WriteString(bytesOf(sized(i, 130)))
	}
	f["t3.1.seg"] = b.String()
	to := holding(t, nil)
	list, e := fsck.Rebuild(holding(t, f), to, usual())
	want(t, "Rebuild", fmt.Sprint(list, e), fmt.Sprint([]api.Finding(nil), api.ErrFiles))
}

// damaged is a store of which much is wrong, and much is there.
func damaged() files {
	return whole().turned("t3.2.seg", 25).without("t1.man").with("t9.4.seg", first().bytes(3)).with("t3.66.seg", shut(66, put(3, "z", "")).bytes(3)).with("x", "")
}

// stout is one of which several segments with hints are made.
func stout() files {
	recs := []api.Record{sized(0, 150), sized(1, 150), put(2, "s", ""), of(4, 2, put(3, "t", "")), sized(4, 150), sized(6, 700), put(9, "u", "")}
	return one(api.Manifest{Next: 4}, open(6, recs...)).with("t9.4.seg", open(4, recs[3:]...).bytes(9)).with("t0.1.seg", "")
}

// wordy is one in which a hint needs more room than all that comes behind it.
func wordy() files {
	var recs []api.Record
	for i := range int64(12) {
		recs = append(recs, put(i, strings.Repeat(string(rune('a'+i)), 64), ""))
	}
	f := stored(api.Manifest{Id: 3}, open(6, append(recs, sized(20, 50))...))
	return f.with("catalog", catalogue(4, api.TopicEntry{Id: 3, Name: "a", Limit: 1000, Horizon: 5}))
}

// Wherever the room ends, that is the answer, and there is no store.
func TestRebuildWithoutRoom(t *testing.T) {
	for what, f := range map[string]files{"damaged": damaged(), "stout": stout(), "wordy": wordy()} {
		done := filesOf(rebuilt(t, "with room", f, usual()).Image())
		for quota := range done.size() + 2 {
			from, to := holding(t, f), holding(t, nil)
			to.SetQuota(quota)
			list, e := fsck.Rebuild(from, to, usual())
			what := fmt.Sprint(what, ", room for ", quota)
			want(t, "operations on from", from.Ops(), 0)
			if quota >= done.size() {
				want(t, what, e, api.OK)
				wantFiles(t, what, to.Image(), done)
				continue
			}
			want(t, what, fmt.Sprint(list, e), fmt.Sprint([]api.Finding(nil), api.ErrSpace))
			_, there := filesOf(to.Image())["catalog"]
			want(t, what+": a store", there, false)
		}
	}
}

// A disk that nobody has made has no files, and no room.
func TestRebuildOfZeroDisks(t *testing.T) {
	from, to := &simfs.Disk{}, &simfs.Disk{}
	list, e := fsck.Rebuild(from, to, usual())
	want(t, "onto a zero disk", fmt.Sprint(list, e), fmt.Sprint([]api.Finding(nil), api.ErrSpace))
	want(t, "operations on from", from.Ops(), 0)
	d := holding(t, nil)
	list, e = fsck.Rebuild(from, d, usual())
	want(t, "of a zero disk", fmt.Sprint(list, e), fmt.Sprint([]api.Finding{found(api.FkCatalogue, "catalog")}, api.OK))
	wantFiles(t, "of a zero disk", d.Image(), files{"catalog": catalogue(1)})
}

// Wherever the power goes, that is the answer; a crash leaves no store, or all of it, if it went behind the catalogue's rename.
func TestRebuildWithoutPower(t *testing.T) {
	for what, f := range map[string]files{"damaged": damaged(), "stout": stout(), "wordy": wordy()} {
		all := rebuilt(t, "with power", f, usual())
		ops := all.Ops()
		stores := 0
		for fuse := range ops + 1 {
			from, to := holding(t, f), holding(t, nil)
			to.Fuse(fuse)
			list, e := fsck.Rebuild(from, to, usual())
			what := fmt.Sprint(what, ", power for ", fuse)
			want(t, "operations on from", from.Ops(), 0)
			if fuse == ops {
				want(t, what, e, api.OK)
				continue
			}
			want(t, what, fmt.Sprint(list, e), fmt.Sprint([]api.Finding(nil), api.ErrDead))
			for _, image := range someLeavings(to, fuse) {
				if _, there := filesOf(image)["catalog"]; there {
					wantFiles(t, what+": behind the rename", image, filesOf(all.Image()))
					want(t, what+": behind the rename", fuse, ops-1)
					stores++
				}
			}
		}
		want(t, what+": the catalogue may be there", stores > 0, true)
	}
	// The directory is synced once more ahead of the catalogue's five operations, whatever was made.
	want(t, "operations of an empty store", rebuilt(t, "empty", nil, usual()).Ops(), 6)
}
