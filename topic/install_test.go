package topic_test

import (
	"fmt"
	"math"
	"slices"
	"testing"

	"chronicle/api"
	"chronicle/probe"
	"chronicle/simfs"
	"chronicle/topic"
)

// The records of the topic that most of these tests merge: in the sealed segments 1 and 2, committed in the last one, and pending there.
func ones() []api.Record { return []api.Record{put(0, "a", "1"), of(9, 1, put(1, "b", "2"))} }
func twos() []api.Record { return []api.Record{gone(2, "a"), at(20, put(3, "b", "3"))} }
func late() []api.Record { return []api.Record{at(20, put(4, "c", "4"))} }
func wait() []api.Record { return []api.Record{of(9, 2, at(40, put(5, "a", "5")))} }

func readyToMerge(t *testing.T) (*simfs.Disk, *topic.Topic) {
	t.Helper()
	d, p := made(t)
	for _, recs := range [][]api.Record{ones(), twos()} {
		lay(t, p, recs...)
		roll(t, p)
	}
	lay(t, p, late()...)
	commit(t, p)
	lay(t, p, wait()...)
	return d, p
}

// 10.9
func TestSealed(t *testing.T) {
	d, p := readyToMerge(t)
	wantList(t, "Sealed", p.Sealed(), []int{1, 2})
	wantList(t, "Stats", p.Stats(), []api.SegStat{
		{Number: 1, Count: 2, Bytes: sizes(ones())},
		{Number: 2, Count: 2, Live: 2, Bytes: sizes(twos()), LiveBytes: sizes(twos())},
	})
	// One that was sealed by a roll which failed is still the last.
	d.SetQuota(d.Used() + 17)
	want(t, "Roll", p.Roll(), api.ErrSpace)
	wantList(t, "Sealed", p.Sealed(), []int{1, 2})
	want(t, "Stats", len(p.Stats()), 2)
	wantTake(t, "the last", p, 3, 0, api.Record{}, 0, api.ErrPlace)
}

func TestTick(t *testing.T) {
	d, p := made(t)
	for _, c := range []struct{ now, clock int64 }{
		{math.MinInt64, 7}, {-1, 7}, {0, 7}, {6, 7}, {7, 7}, {8, 8}, {5, 8}, {1 << 50, 8}, {math.MaxInt64, 8}, {20, 20}, {lastTime - 1, lastTime - 1}, {lastTime, lastTime}, {9, lastTime},
	} {
		unchanged(t, "Tick", d, p, func() { want(t, fmt.Sprint("Tick of ", c.now), p.Tick(c.now), c.clock) })
		want(t, "the clock", p.State().Clock, c.clock)
	}
	lay(t, p, at(lastTime, put(0, "a", "")))
}

// 10.10
func TestTake(t *testing.T) {
	_, p := readyToMerge(t)
	second := 21 + sizes(ones()[:1])
	wantTake(t, "the first", p, 1, 0, ones()[0], second, api.OK)
	wantTake(t, "the first by its place", p, 1, 21, ones()[0], second, api.OK)
	wantTake(t, "the second", p, 1, second, ones()[1], -1, api.OK)
	wantTake(t, "the next segment's", p, 2, 0, twos()[0], 21+sizes(twos()[:1]), api.OK)
	for at := -3; at < 200; at++ {
		if at != 0 && at != 21 && at != second {
			wantTake(t, "no place", p, 1, at, api.Record{}, 0, api.ErrPlace)
		}
	}
	for _, at := range []int{math.MinInt, math.MaxInt} {
		wantTake(t, "no place", p, 1, at, api.Record{}, 0, api.ErrPlace)
	}
	for _, seg := range []int{-1, 0, 3, 4, 99, math.MinInt, math.MaxInt} {
		for _, at := range []int{0, 21, second} {
			wantTake(t, "not sealed", p, seg, at, api.Record{}, 0, api.ErrPlace)
		}
	}
}

func TestNeeded(t *testing.T) {
	_, p := readyToMerge(t)
	for _, now := range []int64{math.MinInt64, -1, 0, 7, 106, 107, lastTime, math.MaxInt64} {
		what := fmt.Sprint("at ", now)
		want(t, what+": superseded", p.Needed(now, ones()[0]), false)
		want(t, what+": superseded", p.Needed(now, ones()[1]), false)
		want(t, what+": a tombstone", p.Needed(now, twos()[0]), now < 107)
		want(t, what+": a value", p.Needed(now, twos()[1]), true)
		want(t, what+": of the last segment", p.Needed(now, late()[0]), true)
		want(t, what+": pending", p.Needed(now, wait()[0]), false)
		want(t, what+": of no key", p.Needed(now, put(3, "x", "")), false)
		want(t, what+": nothing", p.Needed(now, api.Record{}), false)
		// Key and offset say which one is meant; the entry itself says what it is.
		want(t, what+": a value that is called a tombstone", p.Needed(now, gone(3, "b")), true)
		want(t, what+": a tombstone that is called a value", p.Needed(now, at(9999, put(2, "a", "z"))), now < 107)
		want(t, what+": another offset", p.Needed(now, put(2, "b", "3")), false)
	}
	commit(t, p)
	want(t, "superseded now", p.Needed(7, twos()[0]), false)
	want(t, "committed now", p.Needed(7, wait()[0]), true)
}

// The greatest horizon, and the latest time.
func TestNeededAtTheEnd(t *testing.T) {
	_, p := madeWith(t, 256, 1<<40)
	r := at(lastTime, gone(0, "a"))
	lay(t, p, r)
	commit(t, p)
	want(t, "the last moment", p.Needed(lastTime+1<<40-1, r), true)
	want(t, "behind it", p.Needed(lastTime+1<<40, r), false)
}

// 10.11
func TestHold(t *testing.T) {
	d, p := made(t)
	for range 3 {
		unchanged(t, "Hold", d, p, func() {
			want(t, "Hold", p.Hold(), api.OK)
			want(t, "Hold once more", p.Hold(), api.ErrMerging)
			want(t, "Hold once more", p.Hold(), api.ErrMerging)
			p.Release()
			p.Release()
		})
	}
	p.Hold()
	lay(t, p, put(0, "a", "")) // all else goes on
	roll(t, p)
	want(t, "behind an opening nobody holds it", opened(t, d).Hold(), api.OK)
}

func TestNewSeg(t *testing.T) {
	d, p := readyToMerge(t)
	for n := 4; n < 9; n++ {
		unchanged(t, "NewSeg", d, p, func() { want(t, "NewSeg", numbered(t, p), n) })
	}
	roll(t, p)
	want(t, "a roll has used one", numbered(t, p), 10)
	want(t, "behind an opening", numbered(t, opened(t, d)), 10) // the manifest's
}

// 10.12
func TestInstallOfWrongSegments(t *testing.T) {
	d, p := readyToMerge(t)
	n, m := numbered(t, p), numbered(t, p)
	for _, number := range []int{n, m} {
		build(t, d, shelf{number: number, sealed: true})
	}
	for _, olds := range [][]int{nil, {}, {2}, {2, 1}, {1, 1}, {1, 2, 3}, {1, 3}, {3}, {0}, {-1}, {1, 2, 2}, {n}, {1, n}, {0, 1}, {math.MaxInt}} {
		wantInstall(t, fmt.Sprint("olds ", olds), d, p, olds, []int{n}, 0, api.ErrArg)
		wantInstall(t, fmt.Sprint("olds ", olds), d, p, olds, nil, 0, api.ErrArg)
	}
	for _, news := range [][]int{{0}, {-1}, {1}, {2}, {3}, {m + 1}, {n, n}, {n, m, n}, {n, 1}, {n, m, m + 1}, {math.MinInt}, {math.MaxInt}} {
		wantInstall(t, fmt.Sprint("news ", news), d, p, []int{1, 2}, news, 0, api.ErrArg)
	}
	for _, mark := range []int64{math.MinInt64, -1, 6, 7, 1 << 40, math.MaxInt64} { // 5 is the committed end
		wantInstall(t, fmt.Sprint("the mark ", mark), d, p, []int{1, 2}, []int{n}, mark, api.ErrArg)
	}
	// A number that was laid into a manifest is not taken once more.
	want(t, "Install", p.Install([]int{1}, []int{n}, 0), api.OK)
	wantInstall(t, "once more", d, p, []int{n}, []int{n}, 0, api.ErrArg)
	want(t, "Install", p.Install([]int{n}, []int{m}, 0), api.OK)
	wantInstall(t, "one that is no more", d, p, []int{m}, []int{n}, 0, api.ErrArg)
	wantInstall(t, "one of ahead", d, p, []int{1}, nil, 0, api.ErrArg)
	// Behind an opening no number has been told.
	q := opened(t, d)
	wantInstall(t, "opened anew", d, q, []int{m}, []int{n}, 0, api.ErrArg)
}

// wantInstall fails unless Install is refused so, and nothing is changed.
func wantInstall(t *testing.T, what string, d *simfs.Disk, p *topic.Topic, olds, news []int, mark int64, errno api.Errno) {
	t.Helper()
	before, _ := p.Records()
	unchanged(t, what, d, p, func() { want(t, what, p.Install(olds, news, mark), errno) })
	if d.Dead() {
		return
	}
	wantRecords(t, what, p, before...)
}

// bad is what the file of a new segment may not be, if the segments 1 and 2 are merged.
func bad() map[string]func(n int) files {
	one := func(s shelf) func(n int) files {
		return func(n int) files {
			s.number = n
			return files{segName(3, n): s.bytes(3)}
		}
	}
	list := map[string]func(n int) files{
		"not there":          func(n int) files { return nil },
		"not sealed":         one(shelf{recs: twos()}),
		"empty, not sealed":  one(shelf{}),
		"the last one's":     one(shelf{recs: late(), sealed: true}),
		"a pending one":      one(shelf{recs: wait(), sealed: true}),
		"another key":        one(shelf{recs: []api.Record{put(0, "a", "1"), put(1, "a", "2")}, sealed: true}),
		"another offset":     one(shelf{recs: append(twos(), put(9, "b", "3")), sealed: true}),
		"an offset too high": one(shelf{recs: append(twos(), put(lastOffset, "b", "3")), sealed: true}),
	}
	whole := shelf{4, 0, twos(), true}.bytes(3)
	for at := range whole {
		list[fmt.Sprint("a byte changed at ", at)] = func(n int) files {
			return files{segName(3, n): whole}.turned(segName(3, n), at)
		}
		list[fmt.Sprint("the first ", at, " bytes")] = func(n int) files { return files{segName(3, n): whole[:at]} }
	}
	list["more behind"] = func(n int) files { return files{segName(3, n): whole + "\x00"} }
	list["another topic's"] = func(n int) files { return files{segName(3, n): shelf{n, 0, twos(), true}.bytes(4)} }
	list["another number's"] = func(n int) files { return files{segName(3, n): shelf{n + 1, 0, twos(), true}.bytes(3)} }
	return list
}

func TestInstallOfBadFiles(t *testing.T) {
	for what, make := range bad() {
		d, p := readyToMerge(t)
		n, m := numbered(t, p), numbered(t, p)
		for name, b := range make(n) {
			d.Create(name)
			d.Append(name, []byte(b))
			d.Sync(name)
		}
		build(t, d, shelf{number: m, sealed: true})
		for _, news := range [][]int{{n}, {n, m}, {m, n}} {
			wantInstall(t, what, d, p, []int{1, 2}, news, 0, api.ErrTopic)
			wantInstall(t, what+", a wrong mark", d, p, []int{1, 2}, news, 6, api.ErrArg)
		}
		d.Fuse(0) // nothing is changed to see it
		wantInstall(t, what, d, p, []int{1, 2}, []int{n}, 0, api.ErrTopic)
		unpower(t, d)
		wantInstall(t, what+", without power", d, p, []int{1, 2}, []int{m, n}, 0, api.ErrDead)
		wantInstall(t, what+", without power", d, p, []int{1, 2}, nil, 0, api.ErrDead)
		wantInstall(t, what+", without power", d, p, []int{1, 2}, []int{m, n}, -1, api.ErrArg)
	}
}

// Records of news have to be left in olds, and to rise.
func TestInstallOfWrongRecords(t *testing.T) {
	all := slices.Concat(ones(), twos())
	for _, c := range []struct {
		olds  []int
		news  [][]api.Record
		errno api.Errno
	}{
		{[]int{1, 2}, [][]api.Record{all}, api.OK},
		{[]int{1, 2}, [][]api.Record{all[:1], all[1:]}, api.OK},
		{[]int{1, 2}, [][]api.Record{all[:1], nil, all[1:2], all[3:]}, api.OK},
		{[]int{1, 2}, [][]api.Record{all[1:], all[:1]}, api.ErrTopic},
		{[]int{1, 2}, [][]api.Record{all[:2], all[1:]}, api.ErrTopic},
		{[]int{1, 2}, [][]api.Record{all[2:], nil, all[2:]}, api.ErrTopic},
		{[]int{1}, [][]api.Record{all[:2]}, api.OK},
		{[]int{1}, [][]api.Record{nil}, api.OK},
		{[]int{1}, nil, api.OK},
		{[]int{1}, [][]api.Record{all[:3]}, api.ErrTopic},
		{[]int{1}, [][]api.Record{all[2:3]}, api.ErrTopic},
		{[]int{1}, [][]api.Record{nil, all[1:2], all[3:]}, api.ErrTopic},
		{[]int{1, 2}, [][]api.Record{append(all[3:4:4], late()...)}, api.ErrTopic},
	} {
		d, p := readyToMerge(t)
		var news []int
		for _, recs := range c.news {
			news = append(news, numbered(t, p))
			build(t, d, shelf{news[len(news)-1], 0, recs, true})
		}
		what := fmt.Sprint(c.olds, c.news)
		if c.errno != api.OK {
			wantInstall(t, what, d, p, c.olds, news, 0, c.errno)
			continue
		}
		want(t, what, p.Install(c.olds, news, 0), api.OK)
		rest := slices.Concat(slices.Concat(c.news...), all[2*len(c.olds):], late())
		wantRecords(t, what, p, rest...)
		wantList(t, what+": Sealed", p.Sealed(), append(slices.Clone(news), p.Sealed()[len(news):]...))
		q, _ := simfs.Load(d.Image(), 1<<20)
		wantRecords(t, what+": opened anew", opened(t, q), append(rest, wait()...)...)
	}
	// Of what a merge has dropped nothing comes back.
	d, p := readyToMerge(t)
	n, m := numbered(t, p), numbered(t, p)
	build(t, d, shelf{n, 0, all[3:], true})
	want(t, "Install", p.Install([]int{1, 2}, []int{n}, 0), api.OK)
	build(t, d, shelf{m, 0, all[2:], true})
	wantInstall(t, "dropped", d, p, []int{n}, []int{m}, 0, api.ErrTopic)
}

func TestInstall(t *testing.T) {
	d, p := readyToMerge(t)
	n, m, o := numbered(t, p), numbered(t, p), numbered(t, p)
	build(t, d, shelf{m, 1, twos()[:1], true})
	build(t, d, shelf{n, 3, twos()[1:], true})
	ops := d.Ops()
	want(t, "Install", p.Install([]int{1, 2}, []int{m, n}, 2), api.OK)
	want(t, "operations", d.Ops(), ops+5)
	// The manifest has the numbers of committed records alone, and the old files are there still.
	man := api.Manifest{Id: 3, NextSeg: 7, Next: 5, Mark: 2, Clock: 40, Prods: []api.Prod{{Pid: 9, Seq: 1, Off: 1}}}
	shelves := []shelf{{m, 1, twos()[:1], true}, {n, 3, twos()[1:], true}, {3, 4, append(late(), wait()...), false}}
	f := stored(man, shelves...).without(hintName(3, m)).without(hintName(3, n))
	f = f.with("t3.1.seg", shelf{1, 0, ones(), true}.bytes(3)).with("t3.1.hint", shelf{1, 0, ones(), true}.hint())
	f = f.with("t3.2.seg", shelf{2, 2, twos(), true}.bytes(3)).with("t3.2.hint", shelf{2, 2, twos(), true}.hint())
	wantFiles(t, "installed", d.Image(), f)
	wantFiles(t, "durable", d.Crash(nil), f.with("t3.3.seg", shelf{3, 4, late(), false}.bytes(3)))
	wantRecords(t, "installed", p, append(twos(), late()...)...)
	bytes := int64(2*38 + sizes(twos()) + 21 + sizes(late()) + sizes(wait()))
	want(t, "State", p.State(), api.TopicState{Id: 3, Next: 6, Committed: 5, Mark: 2, Clock: 40, Segs: 3, Pending: 1, Live: 2, Bytes: bytes})
	wantList(t, "Stats", p.Stats(), []api.SegStat{
		{Number: m, Count: 1, Live: 1, Bytes: sizes(twos()[:1]), LiveBytes: sizes(twos()[:1])},
		{Number: n, Count: 1, Live: 1, Bytes: sizes(twos()[1:]), LiveBytes: sizes(twos()[1:])},
	})
	wantGet(t, "installed", p, "b", twos()[1])
	wantGet(t, "installed", p, "a", api.Record{})
	wantTake(t, "installed", p, n, 0, twos()[1], -1, api.OK)
	wantTake(t, "installed", p, 2, 0, api.Record{}, 0, api.ErrPlace)
	wantFrom(t, "installed", p, 0, 1, 1, twos()[:1], 3, api.OK)
	// It goes on: the old files are not needed, what is pending is committed, and the mark does not go down.
	for _, name := range []string{"t3.1.seg", "t3.1.hint", "t3.2.seg", "t3.2.hint"} {
		d.Remove(name)
	}
	commit(t, p)
	wantGet(t, "committed", p, "a", wait()[0])
	wantRecords(t, "committed", p, slices.Concat(twos(), late(), wait())...)
	build(t, d, shelf{o, 3, twos()[1:], true})
	want(t, "Install", p.Install([]int{m, n}, []int{o}, 1), api.OK)
	want(t, "the mark", p.State().Mark, 2)
	wantRecords(t, "installed", p, slices.Concat(twos()[1:], late(), wait())...)
	want(t, "Install of nothing", p.Install([]int{o}, nil, 6), api.OK)
	want(t, "the mark", p.State().Mark, 6)
	wantRecords(t, "installed", p, append(late(), wait()...)...)
	wantList(t, "Sealed", p.Sealed(), nil)
	wantGet(t, "b is no more", p, "b", api.Record{})
	wantKeys(t, "b is no more", p, "", "", 9, false, "a", "c")
	q := opened(t, d)
	wantRecords(t, "opened anew", q, append(late(), wait()...)...)
	want(t, "opened anew: the mark", q.State().Mark, 6)
	want(t, "opened anew: Committed", q.State().Committed, 6)
	wantList(t, "opened anew: files", namesOf(d.Image()), []string{"t3.3.seg", "t3.man"})
}

// An entry is the last record that is left, whatever a merge has left out.
func TestEntriesBehindAnInstall(t *testing.T) {
	for _, kept := range [][]api.Record{ones(), ones()[:1], ones()[1:], append(ones(), twos()[1]), twos()[:1], nil} {
		d, p := readyToMerge(t)
		n := numbered(t, p)
		build(t, d, shelf{n, 0, kept, true})
		want(t, "Install", p.Install([]int{1, 2}, []int{n}, 0), api.OK)
		for range 2 {
			last := map[string]api.Record{}
			for _, r := range kept {
				last[r.Key] = r
			}
			for _, key := range []string{"a", "b"} {
				r := last[key]
				if r.Kind == api.KTombstone {
					r = api.Record{}
				}
				wantGet(t, fmt.Sprint("kept ", briefs(kept)), p, key, r)
			}
			q, _ := simfs.Load(d.Crash(nil), 1<<20)
			p = opened(t, q)
		}
	}
}

// A merge may say of a record with the same key and offset something else: what news hold counts.
func TestInstallTakesWhatNewsHold(t *testing.T) {
	d, p := readyToMerge(t)
	n := numbered(t, p)
	list := []api.Record{at(99, put(2, "a", "another")), at(1, gone(3, "b"))}
	build(t, d, shelf{n, 0, list, true})
	want(t, "Install", p.Install([]int{1, 2}, []int{n}, 0), api.OK)
	wantRecords(t, "installed", p, append(list, late()...)...)
	wantGet(t, "a value now", p, "a", list[0])
	wantGet(t, "a tombstone now", p, "b", api.Record{})
	want(t, "Needed", p.Needed(100, list[1]), true)
	want(t, "Needed", p.Needed(101, list[1]), false)
}

func TestInstallOfTooMany(t *testing.T) {
	for _, c := range []struct {
		segs, olds, news int
		errno            api.Errno
	}{{64, 1, 1, api.OK}, {64, 1, 2, api.ErrSegs}, {64, 63, 63, api.OK}, {64, 63, 64, api.ErrSegs}, {63, 1, 2, api.OK}, {63, 1, 3, api.ErrSegs}, {2, 1, 63, api.OK}, {2, 1, 64, api.ErrSegs}} {
		d := holding(t, stored(api.Manifest{Id: 3, Next: 63, Clock: 7}, many(c.segs)...))
		p := opened(t, d)
		var news []int
		for range c.news {
			news = append(news, numbered(t, p))
		}
		olds := p.Sealed()[:c.olds]
		what := fmt.Sprintf("%+v", c)
		want(t, what+": Install of files that are not there", p.Install(olds, news, 0), map[api.Errno]api.Errno{api.OK: api.ErrTopic, api.ErrSegs: api.ErrSegs}[c.errno])
		for _, n := range news {
			build(t, d, shelf{number: n, sealed: true})
		}
		want(t, what+": Install with a wrong mark", p.Install(olds, news, -1), api.ErrArg)
		want(t, what+": Install", p.Install(olds, news, 0), c.errno)
		segs := c.segs
		if c.errno == api.OK {
			segs += c.news - c.olds
		}
		want(t, what+": segments", p.State().Segs, segs)
	}
}

// Without room for the manifest all is as before, and it can be tried again.
func TestInstallWithoutRoom(t *testing.T) {
	d, p := readyToMerge(t)
	n := numbered(t, p)
	build(t, d, shelf{n, 0, twos()[1:], true})
	man := len(manOf(api.Manifest{Id: 3, NextSeg: 5, Next: 5, Mark: 3, Clock: 40, Segs: []int{n, 3}, Prods: []api.Prod{{Pid: 9, Seq: 1, Off: 1}}}))
	all := slices.Concat(ones(), twos(), late())
	for _, room := range []int{0, 1, man - 1} {
		d.SetQuota(d.Used() + room)
		before, image := p.State(), probe.Key(d.Image())
		want(t, "Install", p.Install([]int{1, 2}, []int{n}, 3), api.ErrSpace)
		want(t, "State", p.State(), before)
		want(t, "the disk is as it was", probe.Key(d.Image()) == image, true)
		wantRecords(t, "as before", p, all...)
		wantGet(t, "as before", p, "b", twos()[1])
	}
	d.SetQuota(d.Used() + man)
	want(t, "Install", p.Install([]int{1, 2}, []int{n}, 3), api.OK)
	want(t, "the mark", p.State().Mark, 3)
}

// A merge goes on, though the last segment has been sealed by a roll that failed; and behind it the roll goes on.
func TestInstallBehindAFailedRoll(t *testing.T) {
	d, p := readyToMerge(t)
	n := numbered(t, p)
	build(t, d, shelf{n, 0, twos(), true})
	d.SetQuota(d.Used() + 17)
	want(t, "Roll", p.Roll(), api.ErrSpace)
	d.SetQuota(1 << 20)
	want(t, "Install", p.Install([]int{1, 2}, []int{n}, 0), api.OK)
	lay(t, p, at(40, put(6, "d", "6")))
	commit(t, p)
	list := slices.Concat(twos(), late(), wait(), []api.Record{at(40, put(6, "d", "6"))})
	wantRecords(t, "rolled", p, list...)
	wantList(t, "Sealed", p.Sealed(), []int{n, 3})
	wantRecords(t, "opened anew", opened(t, d), list...)
}

// A roll between the beginning of a merge and its end: the olds are still the first.
func TestRollsWithinAMerge(t *testing.T) {
	d, p := readyToMerge(t)
	n := numbered(t, p)
	build(t, d, shelf{n, 0, twos(), true})
	roll(t, p)
	want(t, "Install", p.Install([]int{1, 2}, []int{n}, 6), api.OK)
	wantList(t, "Sealed", p.Sealed(), []int{n, 3})
	wantRecords(t, "installed", p, slices.Concat(twos(), late(), wait())...)
	wantRecords(t, "opened anew", opened(t, d), slices.Concat(twos(), late(), wait())...)
}
