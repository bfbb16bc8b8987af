package catalog_test

import (
	"fmt"
	"math"
	"slices"
	"strings"
	"testing"

	"chronicle/api"
	"chronicle/catalog"
	"chronicle/simfs"
)

// The chapter's examples.
func TestExamples(t *testing.T) {
	d, c := formatted(t)
	again, e := catalog.Format(d, usual())
	wantRefused(t, "1", again, e, api.ErrExists)
	wantTopics(t, "1", opened(t, d))
	again, e = catalog.Open(holding(t, nil), usual(), 0)
	wantRefused(t, "1", again, e, api.ErrNoFile)

	wantCreate(t, "2", c, "b", 0, 0, 1, api.OK)
	wantCreate(t, "2", c, "a", 5, 0, 2, api.OK)
	wantCreate(t, "2", c, "b", 0, 0, 0, api.ErrTopicExists)
	for _, name := range []string{"", "A", "_g"} {
		wantCreate(t, "2", c, name, 0, 0, 0, api.ErrTopicName)
	}
	wantCreate(t, "2", c, "c", -1, 0, 0, api.ErrConfig)
	wantTopics(t, "2", c, api.TopicEntry{Id: 2, Name: "a", Limit: 256, Horizon: 5}, api.TopicEntry{Id: 1, Name: "b", Limit: 256, Horizon: 100})
	wantList(t, "2", given(c, "b"), []string{"b"})

	want(t, "3: Drop", c.Drop("b"), api.OK)
	p, e := c.ById(1)
	want(t, "3: ById", fmt.Sprint(p == nil, e), "true 141")
	wantCreate(t, "3", c, "b", 0, 0, 3, api.OK)
	want(t, "3: Drop", c.Drop("x"), api.ErrNoTopic)

	for i := range 14 {
		wantCreate(t, "4", c, fmt.Sprint("n", i), 0, 0, 4+i, api.OK)
	}
	wantCreate(t, "4", c, "one-more", 0, 0, 0, api.ErrTopics)

	want(t, "5: Drop", c.Drop("n0"), api.OK)
	d.SetQuota(d.Used())
	names, list := filesOf(d.Image()).names(), c.List()
	wantCreate(t, "5", c, "n0", 0, 0, 0, api.ErrSpace)
	wantList(t, "5", filesOf(d.Image()).names(), names)
	wantList(t, "5", c.List(), list)
}

// 14.3
func TestCreate(t *testing.T) {
	for what, f := range map[string]files{"no topics": catalogue(7), "topics": lived(t)} {
		list := three()
		if what == "no topics" {
			list = nil
		}
		for _, name := range []string{"0", "-", "aa", "b-1", "b-3", "c", "z-9", strings.Repeat("z", 24)} {
			d, c := over(t, f.with(others()))
			ops := d.Ops()
			wantCreate(t, what, c, name, 9, 77, 7, api.OK)
			entry := api.TopicEntry{Id: 7, Name: name, Limit: 256, Horizon: 9}
			all := slices.SortedFunc(slices.Values(append(slices.Clone(list), entry)), func(a, b api.TopicEntry) int { return strings.Compare(a.Name, b.Name) })
			wantTopics(t, what, c, all...)
			wantDurable(t, what, d, f.with(others()).with(fresh(entry, 77)).with(catalogue(8, all...)))
			want(t, what+": operations", d.Ops()-ops, 8+5)
			want(t, what+": the clock", of(t, c, name).State().Clock, 77)
			want(t, what+": its disk", of(t, c, name).Disk(), d)
			// What is created can be written to, and is there behind an Open.
			write(t, of(t, c, name), "k", "v")
			want(t, what+": Commit", of(t, c, name).Commit(), api.OK)
			again := opened(t, loaded(t, d.Crash(nil)))
			wantTopics(t, what+", opened", again, all...)
			wantList(t, what+", opened: List", again.List(), c.List())
		}
	}
}

// 14.3: files of the number that were there are removed.
func TestCreateOverFiles(t *testing.T) {
	mess := files{"t7.1.seg": "old", "t7.1.hint": "", "t7.5.seg": "old", "t7.man": "old", "t7.man.tmp": "old", "t7.8.hint.tmp": ""}
	d, c := over(t, lived(t).with(others()))
	for name, b := range mess {
		d.Create(name)
		d.Append(name, []byte(b))
	}
	wantCreate(t, "over files", c, "n", 0, 0, 7, api.OK)
	entry := api.TopicEntry{Id: 7, Name: "n", Limit: 256, Horizon: 100}
	wantDurable(t, "over files", d, lived(t).with(others()).with(fresh(entry, 0)).with(catalogue(8, append(three(), entry)...)))
}

// 14.3: the horizon that a topic has.
func TestHorizons(t *testing.T) {
	for _, cfg := range []api.Config{{Limit: 256, Horizon: 0}, {Limit: 300, Horizon: 1}, {Limit: 65536, Horizon: horizons}} {
		for _, horizon := range []int64{0, 1, 2, horizons - 1, horizons} {
			d := holding(t, nil)
			c, _ := catalog.Format(d, cfg)
			wantCreate(t, "a horizon", c, "a", horizon, 0, 1, api.OK)
			entry := api.TopicEntry{Id: 1, Name: "a", Limit: cfg.Limit, Horizon: horizon}
			if horizon == 0 {
				entry.Horizon = cfg.Horizon
			}
			wantTopics(t, "a horizon", c, entry)
			wantDurable(t, "a horizon", d, stored(2, entry))
			wantTopics(t, "opened", opened(t, d), entry)
		}
	}
	_, c := formatted(t)
	for i, now := range []int64{0, 1, lastTime - 1, lastTime} {
		wantCreate(t, "a time", c, fmt.Sprint("t", i), 0, now, i+1, api.OK)
		want(t, "the clock", of(t, c, fmt.Sprint("t", i)).State().Clock, now)
	}
}

// wrongNames is names that no topic may have.
func wrongNames() []string {
	list := []string{"", strings.Repeat("x", 25), strings.Repeat("x", 1<<16), "é", "a é", "\xff", "a\x00"}
	for c := range 256 {
		if !strings.ContainsRune("abcdefghijklmnopqrstuvwxyz0123456789-", rune(c)) {
			list = append(list, string([]byte{byte(c)}), string([]byte{'a', byte(c)}))
		}
	}
	return list
}

// 14.3: each error, and the one that applies first.
func TestCreateTellsTheFirstError(t *testing.T) {
	wrongHorizons, wrongTimes := []int64{math.MinInt64, -1, horizons + 1, math.MaxInt64}, []int64{math.MinInt64, -1, lastTime + 1, math.MaxInt64}
	full := stored(17, crowd(16)...)
	used := stored(lastId+1, crowd(2)...)
	for what, f := range map[string]files{"some topics": stored(3, crowd(2)...), "as many as may be": full, "no more numbers": used} {
		for _, dead := range []bool{false, true} {
			d, c := over(t, f)
			next := files{"t3.1.seg": "x", "t17.man": "x", "t1073741824.man": "x"} // they would go, if a Create got as far as to the disk
			for name, b := range next {
				d.Create(name)
				d.Append(name, []byte(b))
				d.Sync(name)
			}
			d.SyncDir()
			if dead {
				unpower(t, d)
			}
			undone(t, what, d, c, func() {
				for _, horizon := range append(wrongHorizons, 0, 7, horizons) {
					for _, now := range append(wrongTimes, 0, lastTime) {
						for _, name := range wrongNames() {
							wantCreate(t, what, c, name, horizon, now, 0, api.ErrTopicName)
						}
						wantCreate(t, what, c, "n00", horizon, now, 0, api.ErrTopicExists)
						wantCreate(t, what, c, "n01", horizon, now, 0, api.ErrTopicExists)
						badHorizon, badTime := !within(horizon, 0, horizons), !within(now, 0, lastTime)
						switch {
						case what != "some topics":
							wantCreate(t, what, c, "new", horizon, now, 0, api.ErrTopics)
						case badHorizon:
							wantCreate(t, what, c, "new", horizon, now, 0, api.ErrConfig)
						case badTime:
							wantCreate(t, what, c, "new", horizon, now, 0, api.ErrArg)
						case dead:
							wantCreate(t, what, c, "new", horizon, now, 0, api.ErrDead)
						}
					}
				}
			})
		}
	}
}

// 14.3: as many topics as may be.
func TestMany(t *testing.T) {
	d, c := formatted(t)
	for i := range 16 {
		wantTopics(t, "so many", c, crowd(i)...)
		wantCreate(t, "one more", c, fmt.Sprintf("n%02d", i), 0, 0, i+1, api.OK)
	}
	for range 2 {
		undone(t, "too many", d, c, func() { wantCreate(t, "too many", c, "x", 0, 0, 0, api.ErrTopics) })
		wantTopics(t, "all", c, crowd(16)...)
		c = opened(t, d)
	}
	want(t, "Drop", c.Drop("n07"), api.OK)
	wantCreate(t, "in its place", c, "x", 0, 0, 17, api.OK)
	undone(t, "too many", d, c, func() { wantCreate(t, "too many", c, "y", 0, 0, 0, api.ErrTopics) })
	wantDurable(t, "all", d, stored(18, slices.Concat(crowd(16)[:7], crowd(16)[8:], []api.TopicEntry{{Id: 17, Name: "x", Limit: 256, Horizon: 100}})...))
}

// 14.3: the last number.
func TestLastNumber(t *testing.T) {
	d, c := over(t, stored(lastId, crowd(2)...))
	wantCreate(t, "the last number", c, "x", 0, 0, lastId, api.OK)
	for range 2 {
		undone(t, "no more numbers", d, c, func() { wantCreate(t, "no more numbers", c, "y", 0, 0, 0, api.ErrTopics) })
		c = opened(t, d)
		wantTopics(t, "all", c, append(crowd(2), api.TopicEntry{Id: lastId, Name: "x", Limit: 256, Horizon: 100})...)
	}
	for _, name := range []string{"x", "n00", "n01"} {
		want(t, "Drop", c.Drop(name), api.OK)
		undone(t, "no more numbers", d, c, func() { wantCreate(t, "no more numbers", c, "y", 0, 0, 0, api.ErrTopics) })
	}
	wantDurable(t, "none", d, catalogue(lastId+1))
}

// 14.3: a disk with too little room refuses the segment, the manifest or the catalogue.
func TestCreateWithoutRoom(t *testing.T) {
	for what, f := range map[string]files{"no topics": catalogue(7), "topics": lived(t).with(others())} {
		seg := len(fresh(api.TopicEntry{Id: 7, Limit: 256}, 0)["t7.1.seg"])
		man := len(fresh(api.TopicEntry{Id: 7, Limit: 256}, 0)["t7.man"])
		for room := 0; ; room++ {
			w := twinsOver(t, f, usual())
			w.disks(func(d *simfs.Disk) { d.SetQuota(d.Used() + room) })
			before := w.d.Ops()
			id, e := w.create(t, fmt.Sprint(what, ", room for ", room), "n", 0, 0)
			if e == api.OK {
				want(t, what+": the number", id, 7)
				want(t, what+": room", room, seg+man+len(filesOf(w.d.Image())["catalog"]))
				break
			}
			want(t, what+": Create", e, api.ErrSpace)
			want(t, what+": power", w.d.Dead(), false)
			wantFiles(t, what, w.d.Image(), f)
			ops := w.d.Ops() - before
			switch {
			case room < seg:
				want(t, what+": the segment", ops, 2)
			case room < seg+man:
				want(t, what+": the manifest", ops, 3+2+1)
			default:
				want(t, what+": the catalogue", ops, 8+2+2)
			}
			// Nothing is left of it behind a crash, and the same number is given then.
			for _, left := range [][]api.File{w.d.Crash(nil), w.d.Crash([]int{1}), w.d.Crash([]int{2}), w.d.Crash([]int{3, 1, 1}), w.d.Crash([]int{5})} {
				d := loaded(t, left)
				again := opened(t, d)
				wantFiles(t, what+", opened", d.Image(), f)
				wantTopics(t, what+", opened", again, w.s.entries()...)
			}
			w.disks(func(d *simfs.Disk) { d.SetQuota(1 << 24) })
			id, e = w.create(t, what+", then with room", "n", 0, 0)
			want(t, what+": then with room", fmt.Sprint(id, e), "7 0")
		}
	}
}

// 14.3: the power goes in a Create, also in one that was refused room: what was refused first is the answer.
func TestCreateWithoutPower(t *testing.T) {
	told := map[string]int{}
	for what, f := range map[string]files{"no topics": catalogue(7), "topics": lived(t), "files of the number": lived(t)} {
		for _, room := range []int{0, 20, 21, 30, 45, 46, 50, 60, 1 << 20} {
			for fuse := 0; ; fuse++ {
				w := twinsOver(t, f, usual())
				w.disks(func(d *simfs.Disk) {
					if what == "files of the number" {
						d.Create("t7.man.tmp")
						d.Create("t7.3.seg")
					}
					d.SetQuota(d.Used() + room)
					d.Fuse(fuse)
				})
				_, e := w.create(t, fmt.Sprintf("%s, room for %d, power for %d", what, room, fuse), "n", 0, 0)
				told[fmt.Sprint(e, w.d.Dead())]++
				if !w.d.Dead() {
					break
				}
				wantTopics(t, what, w.c, w.s.entries()...)
			}
		}
	}
	if told["34 true"] < 100 || told["33 true"] < 20 || told["33 false"] < 9 || told["0 false"] < 3 {
		t.Errorf("%v", told)
	}
}

// crowdedBy is a disk with so many files that just so many more may be.
func crowdedBy(t *testing.T, f files, free int) *simfs.Disk {
	t.Helper()
	all := files{}.with(f)
	for i := 0; len(all) < api.MaxFiles-free; i++ {
		all[fmt.Sprintf("x%05d", i)] = ""
	}
	return holding(t, all)
}

// 14.3, 14.4: a disk with too many files.
func TestTooManyFiles(t *testing.T) {
	for free := range 4 {
		d := crowdedBy(t, lived(t), free)
		c := opened(t, d)
		names, _ := d.List()
		ops := d.Ops()
		if free == 3 {
			wantCreate(t, "three files more", c, "n", 0, 0, 7, api.OK)
			continue
		}
		wantCreate(t, fmt.Sprint(free, " files more"), c, "n", 0, 0, 0, api.ErrFiles)
		want(t, "operations", d.Ops()-ops, []int{0, 3 + 1, 8 + 2}[free])
		after, _ := d.List()
		wantList(t, "files", after, names)
		wantTopics(t, "topics", c, three()...)
		if free > 0 {
			want(t, "Drop", c.Drop("a"), api.OK)
			continue
		}
		want(t, "Drop", c.Drop("a"), api.ErrFiles)
		wantTopics(t, "topics", c, three()...)
		wantList(t, "List", c.List(), livedInfos())
		after, _ = d.List()
		wantList(t, "files", after, names)
	}
}
