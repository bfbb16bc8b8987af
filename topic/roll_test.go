package topic_test

import (
	"fmt"
	"strings"
	"testing"

	"chronicle/api"
	"chronicle/hint"
	"chronicle/simfs"
	"chronicle/topic"
)

// full is a topic with two committed records and a pending one, of a producer.
func full(t *testing.T) (*simfs.Disk, *topic.Topic, []api.Record) {
	t.Helper()
	d, p := made(t)
	list := []api.Record{put(0, "a", "1"), of(9, 1, put(1, "b", "2")), of(9, 2, at(30, gone(2, "a")))}
	lay(t, p, list[:2]...)
	commit(t, p)
	lay(t, p, list[2])
	return d, p, list
}

// rolledFull is its files behind a roll.
func rolledFull(list []api.Record) files {
	m := api.Manifest{Id: 3, Next: 3, Clock: 30, Prods: []api.Prod{{Pid: 9, Seq: 2, Off: 2}}}
	return stored(m, shelf{1, 0, list, true}, shelf{number: 2, base: 3})
}

// 10.6, 10.7
func TestRoll(t *testing.T) {
	d, p, list := full(t)
	ops := d.Ops()
	want(t, "Roll", p.Roll(), api.OK)
	want(t, "operations", d.Ops(), ops+1+2+3+3+5)
	wantFiles(t, "rolled", d.Image(), rolledFull(list))
	wantFiles(t, "durable", d.Crash(nil), rolledFull(list))
	want(t, "State", p.State(), api.TopicState{Id: 3, Next: 3, Committed: 3, Clock: 30, Segs: 2, Live: 1, Dead: 1, Bytes: int64(38 + sizes(list) + 21)})
	wantRecords(t, "rolled", p, list...)
	h, e := hint.Load(d, 3, 1)
	want(t, "the hint", fmt.Sprint(len(h.Entries), e), "2 0")
	unchanged(t, "Roll of nothing", d, p, func() { want(t, "Roll", p.Roll(), api.OK) })
	// With nothing pending no commit is needed.
	lay(t, p, at(30, put(3, "c", "3")))
	commit(t, p)
	ops = d.Ops()
	want(t, "Roll", p.Roll(), api.OK)
	want(t, "operations", d.Ops(), ops+2+3+3+5)
	wantList(t, "Sealed", p.Sealed(), []int{1, 2})
	wantRecords(t, "opened anew", opened(t, d), append(list, at(30, put(3, "c", "3")))...)
}

func TestRollOfNothing(t *testing.T) {
	d, p := made(t)
	for range 2 {
		unchanged(t, "nothing there", d, p, func() { want(t, "Roll", p.Roll(), api.OK) })
	}
	want(t, "segments", p.State().Segs, 1)
	d.SetQuota(0)
	want(t, "Roll without room", p.Roll(), api.OK)
	unpower(t, d)
	want(t, "Roll without power", p.Roll(), api.OK)
}

// The clock that was told by Tick is kept by the next manifest.
func TestManifestsKeepTheClock(t *testing.T) {
	d, p := made(t)
	lay(t, p, put(0, "a", "1"))
	p.Tick(90)
	roll(t, p)
	want(t, "the clock", opened(t, d).State().Clock, 90)
}

// Every manifest has the numbers of committed records alone, and the next number as it is.
func TestManifestsOfRolls(t *testing.T) {
	d, p, list := full(t)
	numbered(t, p)
	numbered(t, p)
	want(t, "Roll", p.Roll(), api.OK)
	m := api.Manifest{Id: 3, NextSeg: 5, Next: 3, Clock: 30, Prods: []api.Prod{{Pid: 9, Seq: 2, Off: 2}}}
	wantFiles(t, "rolled", d.Image(), stored(m, shelf{1, 0, list, true}, shelf{number: 4, base: 3}))
	want(t, "the next number", numbered(t, p), 5)
	// A number that was told and came into no manifest is told again only behind an opening.
	p = opened(t, d)
	want(t, "the next number", numbered(t, p), 5)
}

// What a roll takes of the disk, thing by thing: with so much room it goes so far.
func TestRoomForARoll(t *testing.T) {
	_, _, list := full(t)
	man := len(rolledFull(list)["t3.man"])
	h := len(rolledFull(list)["t3.1.hint"])
	open := stored(api.Manifest{Id: 3, Clock: 7}, shelf{1, 0, list, false})
	shut := open.with("t3.1.seg", shelf{1, 0, list, true}.bytes(3))
	for _, c := range []struct {
		what  string
		room  int
		errno api.Errno
		f     files
		next  int // the next number
	}{
		{"nothing", 0, api.ErrSpace, open, 2},
		{"all but the tail's last byte", 16, api.ErrSpace, open, 2},
		{"the tail", 17, api.ErrSpace, shut, 2},
		{"all but the head's last byte", 17 + 20, api.ErrSpace, shut, 2},
		{"the head", 17 + 21, api.ErrSpace, shut, 3},
		{"all but the manifest's last byte", 17 + 21 + man - 1, api.ErrSpace, shut, 3},
		{"the manifest", 17 + 21 + man, api.OK, rolledFull(list).without("t3.1.hint"), 3},
		{"all but the last byte for the hint", 17 + h + 4096 - 1, api.OK, rolledFull(list).without("t3.1.hint"), 3},
		{"the hint", 17 + h + 4096, api.OK, rolledFull(list), 3},
	} {
		d, p, _ := full(t)
		d.SetQuota(d.Used() + c.room)
		ops := d.Ops()
		want(t, c.what+": Roll", p.Roll(), c.errno)
		if c.room < 17 {
			want(t, c.what+": operations", d.Ops(), ops+1) // the Commit's
		}
		wantFiles(t, c.what, d.Image(), c.f)
		// What was pending is committed in any case, and nothing is lost.
		want(t, c.what+": Committed", p.State().Committed, 3)
		want(t, c.what+": Pending", p.State().Pending, 0)
		wantRecords(t, c.what, p, list...)
		wantRecords(t, c.what+": opened anew", opened(t, holding(t, filesOf(d.Crash(nil)))), list...)
		wantList(t, c.what+": Sealed", p.Sealed(), sealedOf(c.errno))
		q, _ := simfs.Load(d.Image(), 1<<20)
		wantRecords(t, c.what+": opened anew", opened(t, q), list...)
		want(t, c.what+": the next number", numbered(t, p), c.next)
	}
}

func sealedOf(errno api.Errno) []int {
	if errno == api.OK {
		return []int{1}
	}
	return nil
}

// A roll that failed is tried again, by Roll or by Append, and comes to its end once there is room.
func TestRollsAreTriedAgain(t *testing.T) {
	for room := range 120 {
		for _, by := range []string{"Roll", "Append"} {
			d, p, list := full(t)
			d.SetQuota(d.Used() + room)
			if p.Roll() == api.OK {
				continue
			}
			for range 3 {
				want(t, "Roll once more", p.Roll(), api.ErrSpace)
			}
			next := numbered(t, p) + 1
			d.SetQuota(1 << 20)
			late := []api.Record{at(30, put(3, "e", "5"))}
			if by == "Roll" {
				want(t, "Roll with room", p.Roll(), api.OK)
			}
			lay(t, p, late...)
			commit(t, p)
			m := api.Manifest{Id: 3, NextSeg: next + 1, Next: 3, Clock: 30, Prods: []api.Prod{{Pid: 9, Seq: 2, Off: 2}}}
			f := stored(m, shelf{1, 0, list, true}, shelf{next, 3, late, false})
			if room < 17 && by == "Append" { // nothing was sealed, and there is room in the segment
				m.NextSeg, m.Clock, m.Next, m.Prods = 2, 7, 0, nil
				f = stored(m, shelf{1, 0, append(list, late...), false})
			}
			wantFiles(t, fmt.Sprintf("room for %d, %s", room, by), d.Image(), f)
			wantRecords(t, "all", p, append(list, late...)...)
			wantRecords(t, "opened anew", opened(t, d), append(list, late...)...)
		}
	}
}

// A hint that lies in the way is left alone: it is the hint that is left out.
func TestRollOverAHint(t *testing.T) {
	d, p, list := full(t)
	d.Create("t3.1.hint")
	d.Append("t3.1.hint", []byte("x"))
	want(t, "Roll", p.Roll(), api.OK)
	wantFiles(t, "rolled", d.Image(), rolledFull(list).with("t3.1.hint", "x"))
}

// Where the directory has no room for a name, what needs one is refused.
func TestRollAmongManyFiles(t *testing.T) {
	_, _, list := full(t)
	for more := range 4 {
		d := crowded(t, stored(api.Manifest{Id: 3, Clock: 7}, shelf{1, 0, list, false}), more)
		p := opened(t, d)
		wanted := api.ErrFiles
		if more >= 3 { // the hint comes first, and the manifest needs a name beside
			wanted = api.OK
		}
		want(t, fmt.Sprint("room for ", more), p.Roll(), wanted)
		names, _ := d.List()
		own := 0
		for _, name := range names {
			if strings.HasPrefix(name, "t3.") {
				own++
			}
		}
		want(t, "its files", own, 2+min(more, 1)+max(0, more-2))
		wantRecords(t, "the records", p, list...)
		if wanted == api.OK {
			continue
		}
		wantAppend(t, "once more", p, 30, api.Write{Key: "e"}, 0, false, api.ErrFiles)
		for i := range 3 {
			d.Remove(fmt.Sprint("x", i))
		}
		lay(t, p, at(30, put(3, "e", "")))
	}
}

// 10.6, 10.16
func TestAsManySegmentsAsMayBe(t *testing.T) {
	for _, c := range []struct {
		what  string
		dead  func([]shelf)
		now   int64
		errno api.Errno
	}{
		{"all live", func(l []shelf) {}, 0, api.ErrLive},
		{"one is superseded", func(l []shelf) { l[9].recs[0].Key = l[2].recs[0].Key }, 0, api.ErrSegs},
		{"one is superseded in the last", func(l []shelf) { l[63].recs[0].Key = l[2].recs[0].Key }, 0, api.ErrSegs},
		{"a young tombstone", func(l []shelf) { l[9].recs[0] = gone(9, "x") }, 106, api.ErrLive},
		{"an old tombstone", func(l []shelf) { l[9].recs[0] = gone(9, "x") }, 107, api.ErrSegs},
	} {
		list := many(64)
		c.dead(list)
		d := holding(t, stored(api.Manifest{Id: 3, Next: 63, Clock: 7}, list...))
		p := opened(t, d)
		p.Tick(c.now)
		unchanged(t, c.what, d, p, func() { want(t, c.what+": Roll", p.Roll(), c.errno) })
		// Till the last segment is full records are taken; what was pending is committed by the roll that is tried.
		long := at(p.State().Clock, sized(64, 150))
		long.Key = "long"
		lay(t, p, long)
		want(t, c.what+": Pending", p.State().Pending, 1)
		wantAppend(t, c.what, p, 7, api.Write{Key: "x", Value: strings.Repeat("12345", 2) + long.Value[:90]}, 0, false, c.errno)
		want(t, c.what+": Committed", p.State().Committed, 65)
		want(t, c.what+": Pending", p.State().Pending, 0)
		want(t, c.what+": segments", p.State().Segs, 64)
		lay(t, p, at(p.State().Clock, put(65, "short", "")))
		want(t, c.what+": Roll", p.Roll(), c.errno)
		want(t, c.what+": Committed", p.State().Committed, 66)
		d.SetQuota(0)
		wantAppend(t, c.what+", and no room", p, 7, writing(long), 0, false, api.ErrSpace)
	}
	// With one segment less there is room for one more.
	d := holding(t, stored(api.Manifest{Id: 3, Next: 62, Clock: 7}, many(63)...))
	p := opened(t, d)
	want(t, "Roll", p.Roll(), api.OK)
	want(t, "segments", p.State().Segs, 64)
	want(t, "Roll of nothing", p.Roll(), api.OK)
	lay(t, p, put(63, "x", ""))
	want(t, "Roll", p.Roll(), api.ErrLive)
	lay(t, p, put(64, "y", ""))
	d.Fuse(0)
	want(t, "Roll without power: the commit comes first", p.Roll(), api.ErrDead)
	want(t, "Pending", p.State().Pending, 1)

	d = holding(t, stored(api.Manifest{Id: 3, Next: 63, Clock: 7}, many(64)...))
	p = opened(t, d)
	unpower(t, d)
	want(t, "Roll without power, and nothing to commit", p.Roll(), api.ErrLive)
}

// 10.6, 10.7, 10.11
func TestNumbersAtTheirEnd(t *testing.T) {
	_, _, list := full(t)
	one := shelf{1, 0, list, false}
	start := func(next int) (*simfs.Disk, *topic.Topic) {
		d := holding(t, stored(api.Manifest{Id: 3, NextSeg: next, Clock: 7}, one))
		return d, opened(t, d)
	}
	d, p := start(lastId)
	want(t, "Roll", p.Roll(), api.OK)
	m := api.Manifest{Id: 3, NextSeg: 1 << 30, Next: 3, Clock: 30, Prods: []api.Prod{{Pid: 9, Seq: 2, Off: 2}}}
	wantFiles(t, "the last number", d.Image(), stored(m, sealed(one), shelf{number: lastId, base: 3}))
	lay(t, p, at(30, put(3, "c", "")))
	want(t, "Roll", p.Roll(), api.ErrConfig)
	want(t, "Committed", p.State().Committed, 4)
	wantAppend(t, "no more", p, 30, api.Write{Key: "x"}, 0, false, api.ErrConfig)
	wantAppend(t, "no more, and no key", p, 30, api.Write{}, 0, false, api.ErrKey)
	n, e := p.NewSeg()
	want(t, "NewSeg", fmt.Sprint(n, e), fmt.Sprint(0, api.ErrConfig))
	wantRecords(t, "no more", p, append(list, at(30, put(3, "c", "")))...)

	_, p = start(lastId)
	want(t, "NewSeg", numbered(t, p), lastId)
	n, e = p.NewSeg()
	want(t, "NewSeg", fmt.Sprint(n, e), fmt.Sprint(0, api.ErrConfig))
	want(t, "Roll", p.Roll(), api.ErrConfig)

	d, p = start(1 << 30)
	want(t, "Roll", p.Roll(), api.ErrConfig)
	m = api.Manifest{Id: 3, NextSeg: 1 << 30, Clock: 7}
	wantFiles(t, "sealed, and no more", d.Image(), stored(m, sealed(one)).with("t3.1.hint", sealed(one).hint()))
	wantRecords(t, "sealed, and no more", p, list...)
}

// The power goes within a roll: what was pending counts, if it had been committed.
func TestRollWithoutPower(t *testing.T) {
	for n := range 14 {
		d, p, list := full(t)
		d.Fuse(n)
		want(t, "Roll", p.Roll(), api.ErrDead)
		committed := int64(2)
		if n > 0 {
			committed = 3
		}
		want(t, fmt.Sprintf("power for %d: Committed", n), p.State().Committed, committed)
		want(t, "Roll once more", p.Roll(), api.ErrDead)
		wantAppend(t, "no power", p, 30, api.Write{Key: "x"}, 0, false, api.ErrDead)
		q := opened(t, holding(t, filesOf(d.Crash(nil))))
		wantRecords(t, "opened anew", q, list[:committed]...)
	}
}
