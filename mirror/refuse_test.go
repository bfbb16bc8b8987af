package mirror_test

import (
	"fmt"
	"testing"

	"chronicle/api"
	"chronicle/manifest"
	"chronicle/probe"
	"chronicle/record"
)

// copyOf is a mirror that tails at 5 in the source 4, with a copy of these records, committed and noted.
func copyOf(t *testing.T, limit int, recs ...api.Record) *desk {
	t.Helper()
	k := limited(t, limit)
	k.tails("ahead", 1, 0)
	k.hears("ahead", api.OK, subscribed(1, 0, 4), delivered(1, 5))
	for i, r := range recs {
		r.Offset = int64(5 + i)
		k.hears("ahead", api.OK, delivered(1, int64(6+i), r))
	}
	k.commits("ahead")
	return k
}

// full is records of which each fills a segment of 256 bytes, n of them: of one key, or each of its own.
func full(n int, alike bool) []api.Record {
	var list []api.Record
	for i := range n {
		key := "k"
		if !alike {
			key = fmt.Sprintf("k%02d", i)
		}
		list = append(list, value(0, key, brim(i)))
	}
	return list
}

// brim is a value that leaves a segment of 256 bytes no room for another record.
func brim(n int) string { return probe.Text(uint64(n), 200) }

// atOffset lays a topic of the next offset down, and notes that it is a copy of the source 4 up to 5.
func atOffset(t *testing.T, next int64) *desk {
	t.Helper()
	d := loaded(t, nil)
	writes(t, d, copyId)
	m, e := manifest.Load(d, copyId)
	want(t, "Load", e, api.OK)
	m.Next = next
	want(t, "Save", manifest.Save(d, m), api.OK)
	noted(t, d, "source", "t", "at", placed(4, 5))
	k := over(t, d, usual)
	k.tails("ahead", 1, 5)
	k.hears("ahead", api.OK, subscribed(1, 5, 4))
	return k
}

// room leaves a disk just so much room that these records can be appended, and not one more byte.
func (k *desk) room(recs ...api.Record) {
	n := 0
	for i, r := range recs {
		r.Offset = k.m.Topic().State().Next + int64(i)
		n += record.Size(r)
	}
	k.d.SetQuota(k.d.Used() + n + api.Reserve)
}

// 22.4: the copy refuses a record: the position is behind the last one that was applied, and it is idle.
func TestCopyRefusesARecord(t *testing.T) {
	recs := []api.Record{value(0, "a", "1"), value(0, "b", bulk(2)), tomb(0, "c"), value(0, "d", bulk(4))}
	for what, c := range map[string]struct {
		begin func(applied int) *desk
		e     api.Errno
		most  int // so many of the records may be applied ahead of the refusal
	}{
		"no room": {func(applied int) *desk {
			k := copyOf(t, usual, value(0, "z", "z"))
			k.room(recs[:applied]...)
			return k
		}, api.ErrSpace, 3},
		"no offsets":  {func(applied int) *desk { return atOffset(t, maxOffset-int64(applied)) }, api.ErrOffsets, 3},
		"no segments": {func(applied int) *desk { return copyOf(t, 256, full(64, true)...) }, api.ErrSegs, 0},
		"all lives":   {func(applied int) *desk { return copyOf(t, 256, full(64, false)...) }, api.ErrLive, 0},
		"no power": {func(applied int) *desk {
			k := copyOf(t, usual)
			k.d.Fuse(applied)
			return k
		}, api.ErrDead, 3},
		"no time":  {func(applied int) *desk { k := copyOf(t, usual); k.now = -1; return k }, api.ErrArg, 0},
		"too late": {func(applied int) *desk { k := copyOf(t, usual); k.now = lastTime + 1; return k }, api.ErrArg, 0},
		"no topic": {func(applied int) *desk { k := copyOf(t, usual); k.m.Topic().Drop(); return k }, api.ErrGone, 0},
	} {
		for applied := range c.most + 1 {
			k := c.begin(applied)
			what := fmt.Sprint(what, " behind ", applied)
			at := k.m.State().Position
			list := append([]api.Record(nil), recs...)
			for i := range list {
				list[i].Offset = at + 10*int64(i+1)
			}
			k.hears(what+": nothing to apply", api.OK, delivered(1, at+1))
			position := at + 1
			if applied > 0 {
				position = list[applied-1].Offset + 1
			}
			pending := k.m.State().Pending
			k.hears(what, c.e, delivered(1, at+100, list...), delivered(1, at+200), subscribed(9, 9, 9))
			want(t, what+": State", k.m.State().State, api.MirIdle)
			want(t, what+": Position", k.m.State().Position, position)
			want(t, what+": Pending", k.m.State().Pending, pending+applied)
			k.asksNothing(what)
			k.hears(what+", behind it", api.OK, delivered(1, at+100, list...))
			want(t, what+", behind it: Position", k.m.State().Position, position)
			k.m.Lost()
			k.tails(what+", lost", 1, position)
			if c.e == api.ErrDead || c.e == api.ErrGone {
				continue
			}
			k.d.SetQuota(wide)
			k.commits(what)
			k.wantNotes(what, 4, position)
		}
	}
}

// A copy whose segments are at their end goes on as soon as it is merged.
func TestCopyIsMergedAndGoesOn(t *testing.T) {
	k := copyOf(t, 256, full(64, true)...)
	k.hears("full", api.ErrSegs, delivered(1, 70, value(69, "x", bulk(1))))
	merged(t, k.m.Topic(), 0)
	k.hears("idle", api.OK, delivered(1, 70, value(69, "x", bulk(1))))
	k.m.Lost()
	k.tails("lost", 1, 69)
	k.hears("lost", api.OK, subscribed(1, 69, 4), delivered(1, 70, value(69, "x", bulk(1))))
	k.holds("merged", "k="+brim(63)+" x="+bulk(1))
}

// snapping is a mirror that takes a snapshot of the moment 99 of the source 7, with power and room, behind copyOf of a=1 b=2 c=3.
func snapping(t *testing.T) *desk {
	t.Helper()
	k := copyOf(t, usual, value(0, "a", "1"), value(0, "b", "2"), value(0, "c", "3"))
	k.hears("ahead", api.OK, refused(1, api.OpDeliver, api.CodeHorizonPassed))
	k.snaps("ahead", 2)
	k.hears("ahead", api.OK, snapped(2, 99, 7))
	return k
}

// brokenOff fails unless a snapshot of snapping is broken off: the position and the source's number stay, and nothing is noted until Lost.
func (k *desk) brokenOff(what string) {
	k.t.Helper()
	want(k.t, what+": State", k.m.State().State, api.MirIdle)
	want(k.t, what+": Position", k.m.State().Position, 8)
	k.asksNothing(what)
	k.hears(what+", behind it", api.OK, final(2, 99))
	if !k.d.Dead() {
		k.commits(what)
		k.wantNotes(what, 4, 8)
	}
	k.m.Lost()
	k.tails(what+", lost", 1, 8)
	k.hears(what+", lost", api.OK, subscribed(1, 8, 4))
	k.wantState(what+", lost", api.MirTail, 8, k.m.State().Keys, k.m.State().Pending)
}

// 22.4: the copy refuses a value of a snapshot.
func TestCopyRefusesAValue(t *testing.T) {
	recs := []api.Record{value(0, "a", bulk(1)), value(0, "b", bulk(2)), value(0, "d", bulk(3)), value(0, "e", bulk(4))}
	for applied := range len(recs) {
		for what, c := range map[string]struct {
			take func(k *desk)
			e    api.Errno
		}{
			"no room":  {func(k *desk) { k.room(recs[:applied]...) }, api.ErrSpace},
			"no power": {func(k *desk) { k.d.Fuse(applied) }, api.ErrDead},
			"no time":  {func(k *desk) { k.hears("some", api.OK, delivered(2, 99, recs[:applied]...)); k.now = -1 }, api.ErrArg},
		} {
			k := snapping(t)
			c.take(k)
			what := fmt.Sprint(what, " behind ", applied)
			list := recs
			if c.e == api.ErrArg {
				list = recs[applied:]
			}
			k.hears(what, c.e, final(2, 99, list...), delivered(1, 3), subscribed(9, 9, 9))
			want(t, what+": Pending", k.m.State().Pending, applied)
			k.brokenOff(what)
		}
	}
}

// 22.4: the copy's commit is refused at a snapshot's end.
func TestCopyRefusesItsCommit(t *testing.T) {
	k := snapping(t)
	k.hears("power for the values alone", api.OK, delivered(2, 99, value(0, "b", "7")))
	k.d.Fuse(0)
	k.hears("power for the values alone", api.ErrDead, final(2, 99))
	want(t, "Pending", k.m.State().Pending, 1)
	k.brokenOff("power for the values alone")

	k = snapping(t)
	k.hears("no file", api.OK, delivered(2, 99, value(0, "b", "7")))
	want(t, "Rename", k.d.Rename("t3.1.seg", "away"), api.OK)
	k.hears("no file", api.ErrNoFile, final(2, 99), delivered(1, 3))
	want(t, "Pending", k.m.State().Pending, 1)
	want(t, "Rename", k.d.Rename("away", "t3.1.seg"), api.OK)
	k.brokenOff("no file")
	k.holds("no file", "a=1 b=7 c=3")

	k = snapping(t)
	k.hears("nothing to take away", api.OK, delivered(2, 99, value(0, "a", "7"), value(0, "b", "7"), value(0, "c", "7")))
	k.d.Fuse(0)
	k.hears("nothing to take away", api.ErrDead, final(2, 99))
	want(t, "Pending", k.m.State().Pending, 3)
	k.brokenOff("nothing to take away")
}

// 22.4: the copy refuses to take away what a snapshot did not tell.
func TestCopyRefusesToTakeAway(t *testing.T) {
	for applied := range 3 {
		for what, c := range map[string]struct {
			take func(k *desk)
			e    api.Errno
		}{
			"no room":  {func(k *desk) { k.room([]api.Record{tomb(0, "a"), tomb(0, "b"), tomb(0, "c")}[:applied]...) }, api.ErrSpace},
			"no power": {func(k *desk) { k.d.Fuse(applied) }, api.ErrDead},
		} {
			k := snapping(t)
			c.take(k)
			what := fmt.Sprint(what, " behind ", applied)
			k.hears(what, c.e, final(2, 99))
			want(t, what+": Pending", k.m.State().Pending, applied)
			k.brokenOff(what)
		}
		k := snapping(t)
		k.now = -1
		k.hears("no time", api.ErrArg, final(2, 99))
		k.brokenOff("no time")
		k.holds("no time", "a=1 b=2 c=3")
	}
	k := snapping(t)
	k.room(tomb(0, "a"), tomb(0, "b"), tomb(0, "c"))
	k.hears("just enough", api.OK, final(2, 99))
	k.wantState("just enough", api.MirTail, 99, 3, 3)
}

// A time that may not be matters only where something is applied.
func TestWrongTimesWithoutRecords(t *testing.T) {
	k := copyOf(t, usual, value(0, "a", "1"))
	for _, now := range []int64{-1, lastTime + 1} {
		k.now = now
		at := k.m.State().Position
		k.hears("tailing", api.OK, delivered(1, at+1))
		k.hears("passed", api.OK, refused(1, api.OpDeliver, api.CodeHorizonPassed))
		k.snaps("passed", 2)
		k.hears("passed", api.OK, snapped(2, 50, 4), delivered(2, 50))
		k.now = 9
		k.hears("a value", api.OK, delivered(2, 50, value(0, "a", "1")))
		k.now = now
		k.hears("nothing to take away", api.OK, final(2, 50))
		k.wantState("behind it", api.MirTail, 50, 1, 0)
		k.m.Lost()
		k.tails("behind it", 1, 50)
		k.hears("behind it", api.OK, subscribed(1, 50, 4))
	}
	want(t, "the clock", k.m.Topic().Tick(0), 9)
}
