package topic_test

import (
	"fmt"
	"math"
	"strings"
	"testing"

	"chronicle/api"
	"chronicle/probe"
	"chronicle/record"
	"chronicle/simfs"
	"chronicle/topic"
)

// The chapter's examples.
func TestExamples(t *testing.T) {
	d, p := made(t)
	wantList(t, "files", namesOf(d.Image()), []string{"t3.1.seg", "t3.man"})
	want(t, "State", p.State(), api.TopicState{Id: 3, Clock: 7, Segs: 1, Bytes: 21})
	q, e := topic.Open(d, 4, 256, 100, 7)
	wantRefused(t, "Open of the number 4", q, e, api.ErrTopic)

	wantAppend(t, "put a=1", p, 8, api.Write{Key: "a", Value: "1"}, 0, false, api.OK)
	wantGet(t, "not committed", p, "a", api.Record{})
	want(t, "Next", p.State().Next, 1)
	want(t, "Committed", p.State().Committed, 0)
	want(t, "Pending", p.State().Pending, 1)
	commit(t, p)
	wantGet(t, "committed", p, "a", api.Record{Kind: api.KValue, Offset: 0, Time: 8, Key: "a", Value: "1"})
	wantAppend(t, "delete a", p, 5, api.Write{Key: "a", Tombstone: true}, 1, false, api.OK)
	commit(t, p)
	wantGet(t, "deleted", p, "a", api.Record{})
	wantRecords(t, "two", p, at(8, put(0, "a", "1")), at(8, gone(1, "a")))
	want(t, "Dead", p.State().Dead, 1)
	want(t, "Live", p.State().Live, 0)

	w := api.Write{Key: "k", Pid: 9, Seq: 1}
	wantAppend(t, "fresh", p, 8, w, 2, false, api.OK)
	wantAppend(t, "once more", p, 8, w, 2, true, api.OK)
	w.Seq = 3
	wantAppend(t, "a gap", p, 8, w, 0, false, api.ErrSeq)
	w.Seq = 2
	wantAppend(t, "the next", p, 8, w, 3, false, api.OK)
	w.Seq = 1
	wantAppend(t, "stale", p, 8, w, 0, false, api.ErrStale)

	two := []api.Record{at(8, put(0, "a", "1")), at(8, gone(1, "a"))}
	wantFrom(t, "all", p, 0, 9, 9999, two, 2, api.OK)
	wantFrom(t, "the end", p, 2, 9, 9999, nil, 2, api.OK)
	wantFrom(t, "above", p, 3, 1, 1, nil, 0, api.ErrPos)
	wantFrom(t, "one", p, 0, 1, 1, two[:1], 1, api.OK)

	want(t, "Roll", p.Roll(), api.OK)
	want(t, "Committed", p.State().Committed, 4)
	wantList(t, "files", namesOf(d.Image()), []string{"t3.1.hint", "t3.1.seg", "t3.2.seg", "t3.man"})
	wantList(t, "Sealed", p.Sealed(), []int{1})
	image := probe.Key(d.Image())
	want(t, "Roll of nothing", p.Roll(), api.OK)
	want(t, "nothing is done", probe.Key(d.Image()), image)
}

// unchanged fails if a call has changed a topic, its clock aside, or its disk.
func unchanged(t *testing.T, what string, d *simfs.Disk, p *topic.Topic, call func()) {
	t.Helper()
	before, image, ops := p.State(), probe.Key(d.Image()), d.Ops()
	call()
	after := p.State()
	after.Clock = before.Clock
	want(t, what+": State", after, before)
	want(t, what+": the disk is as it was", probe.Key(d.Image()) == image, true)
	want(t, what+": operations", d.Ops(), ops)
}

// 10.3
func TestTimesOfAppend(t *testing.T) {
	d, p := made(t)
	for _, now := range []int64{math.MinInt64, -1, 1 << 50, math.MaxInt64} {
		unchanged(t, fmt.Sprint(now), d, p, func() {
			wantAppend(t, "no time", p, now, api.Write{Key: "a"}, 0, false, api.ErrArg)
			wantAppend(t, "no time, and no key", p, now, api.Write{}, 0, false, api.ErrArg)
		})
		want(t, "the clock", p.State().Clock, 7)
	}
	var list []api.Record
	for i, now := range []int64{0, 6, 7, 8, 5, 9, 0, lastTime - 1, 3, lastTime, 0} {
		clock := int64(7)
		if i > 0 {
			clock = max(list[i-1].Time, now)
		}
		list = append(list, at(clock, put(int64(i), "a", "")))
		wantAppend(t, fmt.Sprint("at ", now), p, now, api.Write{Key: "a"}, int64(i), false, api.OK)
		want(t, "the clock", p.State().Clock, clock)
	}
	commit(t, p)
	wantRecords(t, "times", p, list...)
}

// The clock goes on, whatever stands against the record.
func TestTheClockGoesOnWithRefusals(t *testing.T) {
	d, p := made(t)
	lay(t, p, of(9, 1, put(0, "a", "")))
	wantAppend(t, "no key", p, 10, api.Write{}, 0, false, api.ErrKey)
	want(t, "the clock", p.State().Clock, 10)
	wantAppend(t, "a gap", p, 11, api.Write{Key: "a", Pid: 9, Seq: 3}, 0, false, api.ErrSeq)
	want(t, "the clock", p.State().Clock, 11)
	wantAppend(t, "again", p, 12, api.Write{Key: "a", Pid: 9, Seq: 1}, 0, true, api.OK)
	want(t, "the clock", p.State().Clock, 12)
	d.SetQuota(0)
	wantAppend(t, "no room", p, 13, api.Write{Key: "a"}, 0, false, api.ErrSpace)
	want(t, "the clock", p.State().Clock, 13)
	d.SetQuota(1 << 20)
	unpower(t, d)
	wantAppend(t, "no power", p, 14, api.Write{Key: "a"}, 0, false, api.ErrDead)
	want(t, "the clock", p.State().Clock, 14)
}

// What record.Check refuses, is refused so.
func TestWrongRecords(t *testing.T) {
	long := strings.Repeat("k", 65)
	much := strings.Repeat("v", 1025)
	for what, c := range map[string]struct {
		w     api.Write
		errno api.Errno
	}{
		"no key":                         {api.Write{Value: "v"}, api.ErrKey},
		"a long key":                     {api.Write{Key: long}, api.ErrKey},
		"a long value":                   {api.Write{Key: "a", Value: much}, api.ErrValue},
		"a tombstone with a value":       {api.Write{Key: "a", Value: "v", Tombstone: true}, api.ErrValue},
		"a number of no producer":        {api.Write{Key: "a", Seq: 1}, api.ErrNumber},
		"a producer without a number":    {api.Write{Key: "a", Pid: 1}, api.ErrNumber},
		"a producer below 0":             {api.Write{Key: "a", Pid: -1, Seq: 1}, api.ErrNumber},
		"a producer too high":            {api.Write{Key: "a", Pid: 1 << 32, Seq: 1}, api.ErrNumber},
		"a number too high":              {api.Write{Key: "a", Pid: 1, Seq: 1 << 40}, api.ErrNumber},
		"a number below 0":               {api.Write{Key: "a", Pid: 1, Seq: -1}, api.ErrNumber},
		"numbers ahead of the key":       {api.Write{Key: "", Pid: -1, Seq: 1}, api.ErrNumber},
		"the key ahead of the value":     {api.Write{Key: "", Value: much}, api.ErrKey},
		"the value ahead of a gap":       {api.Write{Key: "a", Value: much, Pid: 9, Seq: 7}, api.ErrValue},
		"the key ahead of a repetition":  {api.Write{Key: "", Pid: 9, Seq: 2}, api.ErrKey},
		"the value ahead of one as well": {api.Write{Key: "a", Value: much, Pid: 9, Seq: 2}, api.ErrValue},
	} {
		d, p := made(t)
		lay(t, p, of(9, 1, put(0, "a", "")))
		commit(t, p)
		lay(t, p, of(9, 2, put(1, "a", "")))
		for _, room := range []int{1 << 20, d.Used()} {
			d.SetQuota(room)
			unchanged(t, what, d, p, func() { wantAppend(t, what, p, 7, c.w, 0, false, c.errno) })
		}
		d.SetQuota(1 << 20)
		unpower(t, d)
		wantAppend(t, what+" without power", p, 7, c.w, 0, false, c.errno)
	}
}

// The greatest records are taken, and those with bytes of all kinds.
func TestRightRecords(t *testing.T) {
	d, p := made(t)
	list := []api.Record{
		put(0, strings.Repeat("k", 64), probe.Text(1, 1024)), put(1, "\x00", ""), gone(2, "\x00"), put(3, "\xff", strings.Repeat("v", 1024)),
		of(1<<32-1, 1, put(4, "a", "\x00\xa9\xad\xae")), put(5, "é", "ü"), gone(6, "never there"),
	}
	lay(t, p, list...)
	commit(t, p)
	wantRecords(t, "all", p, list...)
	wantRecords(t, "opened anew", opened(t, d), list...)
	wantGet(t, "a", p, strings.Repeat("k", 64), list[0])
	wantGet(t, "a tombstone of nothing", p, "never there", api.Record{})
}

// A producer's numbers, those of pending records among them.
func TestNumbersOfProducers(t *testing.T) {
	for _, between := range []string{"nothing", "Commit", "Roll", "Open"} {
		d, p := made(t)
		next := int64(0)
		do := func(pid, seq, off int64, again bool, errno api.Errno) {
			t.Helper()
			what := fmt.Sprintf("with %s between: %d/%d", between, pid, seq)
			// What is again there is not looked at.
			w := api.Write{Key: fmt.Sprint("k", next), Value: strings.Repeat("v", int(next)), Pid: pid, Seq: seq}
			if again || errno != api.OK {
				unchanged(t, what, d, p, func() { wantAppend(t, what, p, 7, w, off, again, errno) })
			} else {
				wantAppend(t, what, p, 7, w, next, false, api.OK)
				next++
			}
			switch between {
			case "Commit":
				commit(t, p)
			case "Roll":
				roll(t, p)
			case "Open":
				p = opened(t, d)
			}
		}
		do(1, 2, 0, false, api.ErrSeq)
		do(1, 1, 0, false, api.OK)
		do(1, 1, 0, true, api.OK)
		do(1, 3, 0, false, api.ErrSeq)
		do(0, 0, 0, false, api.OK)
		do(0, 0, 0, false, api.OK)
		do(1, 2, 0, false, api.OK)
		do(1, 1, 0, false, api.ErrStale)
		do(1, 2, 3, true, api.OK)
		do(2, 1, 0, false, api.OK)
		do(1, 3, 0, false, api.OK)
		do(2, 1, 4, true, api.OK)
		do(1, 3, 5, true, api.OK)
		do(1, 2, 0, false, api.ErrStale)
		do(1, 5, 0, false, api.ErrSeq)
		do(1, 1<<40-1, 0, false, api.ErrSeq)
		commit(t, p)
		want(t, "records", p.State().Committed, 6)
	}
}

// Behind a refusal the producer's number is as fresh as before.
func TestRefusedNumbersAreFreshStill(t *testing.T) {
	d, p := made(t)
	w := api.Write{Key: "a", Pid: 9, Seq: 1}
	d.SetQuota(d.Used())
	wantAppend(t, "no room", p, 7, w, 0, false, api.ErrSpace)
	d.SetQuota(1 << 20)
	wantAppend(t, "with room", p, 7, w, 0, false, api.OK)
	d.SetQuota(d.Used())
	wantAppend(t, "again, without room", p, 7, w, 0, true, api.OK)
	unpower(t, d)
	wantAppend(t, "again, without power", p, 7, w, 0, true, api.OK)
	w.Seq = 2
	d.SetQuota(1 << 20)
	wantAppend(t, "without power", p, 7, w, 0, false, api.ErrDead)
	wantAppend(t, "without power once more", p, 7, w, 0, false, api.ErrDead)
	want(t, "Pending", p.State().Pending, 1)
}

func TestManyProducers(t *testing.T) {
	d, p := madeWith(t, 65536, 100)
	for i := range int64(64) {
		wantAppend(t, "a producer", p, 7, api.Write{Key: "a", Pid: 1000 - i, Seq: 1}, i, false, api.OK)
	}
	for range 2 {
		wantAppend(t, "one more", p, 7, api.Write{Key: "a", Pid: 5, Seq: 1}, 0, false, api.ErrProds)
		wantAppend(t, "one more with another number", p, 7, api.Write{Key: "a", Pid: 5, Seq: 2}, 0, false, api.ErrSeq)
		wantAppend(t, "one of them", p, 7, api.Write{Key: "a", Pid: 1000, Seq: 1}, 0, true, api.OK)
		commit(t, p)
	}
	wantAppend(t, "one of them", p, 7, api.Write{Key: "a", Pid: 1000, Seq: 2}, 64, false, api.OK)
	roll(t, p)
	p = opened(t, d)
	wantAppend(t, "one more", p, 7, api.Write{Key: "a", Pid: 5, Seq: 1}, 0, false, api.ErrProds)
	wantAppend(t, "none", p, 7, api.Write{Key: "a"}, 65, false, api.OK)
}

// atTheEnd is a topic of which the last record has the offset before the last but one.
func atTheEnd(t *testing.T) (*simfs.Disk, *topic.Topic) {
	t.Helper()
	m := api.Manifest{Id: 3, Next: lastOffset - 1, Prods: []api.Prod{{Pid: 9, Seq: 4, Off: 17}}}
	d := holding(t, stored(m, shelf{1, 5, []api.Record{put(lastOffset-1, "a", "")}, false}))
	return d, opened(t, d)
}

func TestOffsetsAtTheirEnd(t *testing.T) {
	d, p := atTheEnd(t)
	want(t, "Next", p.State().Next, lastOffset)
	lay(t, p, of(9, 5, put(lastOffset, "b", "last")))
	for range 3 {
		want(t, "Next", p.State().Next, 1<<40)
		unchanged(t, "full", d, p, func() {
			wantAppend(t, "full", p, 7, api.Write{Key: "c"}, 0, false, api.ErrOffsets)
			wantAppend(t, "full", p, 7, api.Write{Key: "c", Pid: 9, Seq: 6}, 0, false, api.ErrOffsets)
			// What else is wrong with a record, is told first.
			wantAppend(t, "no key", p, 7, api.Write{}, 0, false, api.ErrKey)
			wantAppend(t, "no number", p, 7, api.Write{Key: "c", Seq: 1}, 0, false, api.ErrNumber)
			wantAppend(t, "no time", p, -1, api.Write{Key: "c"}, 0, false, api.ErrArg)
			wantAppend(t, "again", p, 7, api.Write{Key: "c", Pid: 9, Seq: 5}, lastOffset, true, api.OK)
			wantAppend(t, "stale", p, 7, api.Write{Key: "c", Pid: 9, Seq: 4}, 0, false, api.ErrStale)
			wantAppend(t, "a gap", p, 7, api.Write{Key: "c", Pid: 9, Seq: 7}, 0, false, api.ErrSeq)
			quota := d.Quota()
			d.SetQuota(0)
			wantAppend(t, "full, and no room", p, 7, api.Write{Key: "c"}, 0, false, api.ErrOffsets)
			d.SetQuota(quota)
		})
		want(t, "Roll", p.Roll(), api.OK)
		wantFrom(t, "the last", p, lastOffset, 9, 999, []api.Record{of(9, 5, put(lastOffset, "b", "last"))}, 1<<40, api.OK)
		wantFrom(t, "the end", p, 1<<40, 9, 999, nil, 1<<40, api.OK)
		wantFrom(t, "behind it", p, 1<<40+1, 9, 999, nil, 0, api.ErrPos)
		p = opened(t, d)
	}
	unpower(t, d)
	wantAppend(t, "full, and no power", p, 7, api.Write{Key: "c"}, 0, false, api.ErrOffsets)
}

// 10.3, 10.16
func TestRoomForARecord(t *testing.T) {
	for _, n := range []int{15, 16, 100, 1038} {
		d, p := made(t)
		w := writing(sized(0, n))
		d.SetQuota(d.Used() + 4096 + n - 1)
		unchanged(t, "a byte too few", d, p, func() { wantAppend(t, "a byte too few", p, 7, w, 0, false, api.ErrSpace) })
		d.SetQuota(d.Used() + 4096 + n)
		wantAppend(t, "just enough", p, 7, w, 0, false, api.OK)
		want(t, "what is left", d.Quota()-d.Used(), 4096)
		wantAppend(t, "one more", p, 7, w, 0, false, api.ErrSpace)
		for _, quota := range []int{0, d.Used() - 1, d.Used(), d.Used() + 4095} {
			d.SetQuota(quota)
			wantAppend(t, "no room at all", p, 7, w, 0, false, api.ErrSpace)
		}
		want(t, "Commit", p.Commit(), api.OK)
		want(t, "Committed", p.State().Committed, 1)
	}
}

// With just enough room a record is taken, though a roll comes ahead of it, and however much that takes.
func TestRoomForARecordBehindARoll(t *testing.T) {
	for _, prods := range []int64{0, 64} {
		for _, extra := range []int{0, 1, 17, 21, 38, 100, 300, 2000, 5000} {
			d, p := madeWith(t, 1300, 100)
			for i := range prods {
				wantAppend(t, "a producer", p, 7, api.Write{Key: fmt.Sprintf("the long key %d", i), Pid: 1<<32 - 1 - i, Seq: 1}, i, false, api.OK)
			}
			next := p.State().Next
			for d.Used() < 50000 {
				lay(t, p, sized(next, 200))
				next++
			}
			segs := p.State().Segs
			for p.State().Segs == segs {
				n := record.Size(sized(next, 1038))
				d.SetQuota(d.Used() + 4096 + n + extra)
				wantAppend(t, "just enough", p, 7, writing(sized(next, 1038)), next, false, api.OK)
				next++
			}
			want(t, "Committed", p.State().Committed, next-1)
		}
	}
}

// 10.3: when the last segment is full.
func TestWhenAnAppendRolls(t *testing.T) {
	for _, limit := range []int{256, 257, 300, 1024} {
		for _, ahead := range []int{15, 50} {
			_, p := madeWith(t, limit, 100)
			lay(t, p, sized(0, ahead))
			n := limit - 21 - 17 - ahead // what just fits
			lay(t, p, sized(1, n))
			want(t, "it just fits: segments", p.State().Segs, 1)
			want(t, "it just fits: Pending", p.State().Pending, 2)

			d, p := madeWith(t, limit, 100)
			lay(t, p, sized(0, ahead))
			lay(t, p, sized(1, n+1))
			want(t, "one byte more: segments", p.State().Segs, 2)
			want(t, "one byte more: Committed", p.State().Committed, 1)
			want(t, "one byte more: Pending", p.State().Pending, 1)
			wantFiles(t, "one byte more", d.Image(), stored(api.Manifest{Id: 3, Next: 1, Clock: 7},
				shelf{1, 0, []api.Record{sized(0, ahead)}, true}, shelf{2, 1, []api.Record{sized(1, n+1)}, false}))
		}
	}
}

// One that is alone too long is taken into an empty segment, and is alone there.
func TestLongRecords(t *testing.T) {
	_, p := made(t)
	for i := range int64(4) {
		lay(t, p, sized(i, 1038))
		want(t, "segments", p.State().Segs, int(i)+1)
		want(t, "Pending", p.State().Pending, 1)
	}
	lay(t, p, put(4, "a", ""))
	want(t, "a short one behind", p.State().Segs, 5)
	lay(t, p, put(5, "a", ""))
	want(t, "another", p.State().Segs, 5)
	lay(t, p, sized(6, 1038))
	want(t, "a long one", p.State().Segs, 6)
}

// 10.4
func TestCommit(t *testing.T) {
	d, p := made(t)
	unchanged(t, "nothing is pending", d, p, func() { want(t, "Commit", p.Commit(), api.OK) })
	a, b := put(0, "a", "1"), put(1, "b", "2")
	lay(t, p, a, b)
	wantRecords(t, "not committed", p)
	wantKeys(t, "not committed", p, "", "", 9, false)
	wantGet(t, "not committed", p, "a", api.Record{})
	wantFrom(t, "not committed", p, 0, 9, 999, nil, 0, api.OK)
	wantFrom(t, "not committed", p, 1, 9, 999, nil, 0, api.ErrPos)
	want(t, "not committed: Needed", p.Needed(0, a), false)
	s := api.TopicState{Id: 3, Next: 2, Clock: 7, Segs: 1, Pending: 2, Bytes: int64(21 + sizes([]api.Record{a, b}))}
	want(t, "not committed", p.State(), s)
	ops := d.Ops()
	commit(t, p)
	want(t, "operations", d.Ops(), ops+1)
	s.Committed, s.Pending, s.Live = 2, 0, 2
	want(t, "committed", p.State(), s)
	wantRecords(t, "committed", p, a, b)
	wantFiles(t, "durable", d.Crash(nil), stored(api.Manifest{Id: 3, Clock: 7}, shelf{1, 0, []api.Record{a, b}, false}))
	unchanged(t, "nothing is pending", d, p, func() { want(t, "Commit", p.Commit(), api.OK) })
}

// Without power nothing is committed.
func TestCommitWithoutPower(t *testing.T) {
	d, p := made(t)
	lay(t, p, put(0, "a", "1"))
	commit(t, p)
	d.Fuse(1)
	lay(t, p, put(1, "a", "2"))
	for range 2 {
		unchanged(t, "no power", d, p, func() { want(t, "Commit", p.Commit(), api.ErrDead) })
	}
	want(t, "Pending", p.State().Pending, 1)
	want(t, "Committed", p.State().Committed, 1)

	d, p = made(t)
	lay(t, p, put(0, "a", "1"))
	commit(t, p)
	unpower(t, d)
	want(t, "with nothing pending no power is needed", p.Commit(), api.OK)
}
