package group_test

import (
	"fmt"
	"testing"

	"chronicle/api"
	"chronicle/group"
	"chronicle/manifest"
	"chronicle/topic"
)

// 15.3, 15.4, 15.7: the chapter's first three examples.
func TestExamples(t *testing.T) {
	_, p, g := none(t)
	wantJoin(t, "first", g, "a", 1, api.OK)
	wantGen(t, "none yet", g, "a", 0)
	wantSet(t, "first", g, "a", 1, 3, 7, api.OK)
	wantSet(t, "first", g, "a", 2, 3, 8, api.ErrFenced)
	wantSet(t, "first", g, "b", 1, 3, 7, api.ErrNoGroup)
	wantCommit(t, "first", g)
	wantGen(t, "committed", g, "a", 1)
	wantAt(t, "committed", g, "a", 3, 7)
	wantAt(t, "committed", g, "a", 4, -1)
	wantRecords(t, "committed", p, put("g.a", "\x01"), put("p.a.3", "\x07"))
	n, e := g.Join(1, "a")
	want(t, "second: Join", n == 2 && e == api.OK, true)
	want(t, "second: Set", g.Set(1, "a", 1, 3, 9), api.ErrFenced)
	wantAt(t, "second", g, "a", 3, 7)
	k, e := g.Forget(2, 3)
	want(t, "third: Forget", k == 1 && e == api.OK, true)
	wantCommit(t, "third", g)
	wantAt(t, "third", g, "a", 3, -1)
	want(t, "third: Positions", len(g.Positions("a")), 0)
	wantList(t, "third: Names", g.Names(), []string{"a"})
	wantRecords(t, "third", p, put("g.a", "\x01"), put("p.a.3", "\x07"), put("g.a", "\x02"), gone("p.a.3"))
	recs, _ := p.Records()
	for i, time := range []int64{0, 0, 1, 2} {
		want(t, "the time", recs[i].Time, time)
	}
}

// 15.3: generations rise by one, each group's by itself, ahead of commits and behind them.
func TestJoin(t *testing.T) {
	_, p, g := none(t)
	var records []api.Write
	for i := range int64(300) {
		wantJoin(t, "a", g, "a", i+1, api.OK)
		records = append(records, generation("a", i+1))
		if i%7 == 0 {
			wantJoin(t, long, g, long, i/7+1, api.OK)
			records = append(records, generation(long, i/7+1))
		}
		if i%5 == 0 {
			wantCommit(t, "sometimes", g)
		}
	}
	wantCommit(t, "at last", g)
	wantGen(t, "a", g, "a", 300)
	wantGen(t, "long", g, long, 43)
	wantList(t, "Names", g.Names(), []string{"a", long})
	wantRecords(t, "joined", p, records...)
}

// 15.3: the greatest generation, committed or pending.
func TestLastGeneration(t *testing.T) {
	d, p, g := over(t, generation("a", lastGen-1), generation("b", lastGen))
	undone(t, "no more", d, p, g, func() { wantJoin(t, "no more", g, "b", 0, api.ErrNumber) })
	wantJoin(t, "the last one", g, "a", lastGen, api.OK)
	undone(t, "no more", d, p, g, func() { wantJoin(t, "pending", g, "a", 0, api.ErrNumber) })
	wantCommit(t, "the last one", g)
	wantGen(t, "the last one", g, "a", lastGen)
	undone(t, "no more", d, p, g, func() { wantJoin(t, "committed", g, "a", 0, api.ErrNumber) })
	wantSet(t, "the last one", g, "a", lastGen, 0, 1, api.OK)
	wantSet(t, "the last one", g, "b", lastGen, 0, 1, api.OK)
	wantSet(t, "no such one", g, "b", lastGen+1, 0, 1, api.ErrFenced)
	wantJoin(t, "another group", g, "c", 1, api.OK)
}

// 15.4: generations before and to come, pending or committed.
func TestFences(t *testing.T) {
	d, p, g := none(t)
	for _, gen := range []int64{-1, 0, 1, 2, lastGen} {
		undone(t, "no group", d, p, g, func() { wantSet(t, "no group", g, "a", gen, 1, 1, api.ErrNoGroup) })
	}
	wantJoin(t, "one", g, "a", 1, api.OK)
	wantJoin(t, "two", g, "a", 2, api.OK)
	for range 2 {
		for _, gen := range []int64{-1 << 63, -2, -1, 0, 1, 3, 4, lastGen, lastGen + 1, 1<<63 - 1} {
			undone(t, "fenced", d, p, g, func() { wantSet(t, "fenced", g, "a", gen, 1, 1, api.ErrFenced) })
		}
		wantSet(t, "its generation", g, "a", 2, 1, 1, api.OK)
		wantSet(t, "another group", g, "b", 2, 1, 1, api.ErrNoGroup)
		wantCommit(t, "two", g)
	}
	// A generation that is pending counts here, the committed one no more.
	wantJoin(t, "three", g, "a", 3, api.OK)
	wantGen(t, "committed", g, "a", 2)
	wantSet(t, "committed", g, "a", 2, 1, 2, api.ErrFenced)
	wantSet(t, "pending", g, "a", 3, 1, 3, api.OK)
	wantAt(t, "committed", g, "a", 1, 1)
}

// 15.4: topics' numbers and positions, the least and the greatest.
func TestSet(t *testing.T) {
	d, p, g := over(t, generation("a", 1))
	for _, id := range []int{-1 << 63, -1, lastId + 1, 1<<63 - 1} {
		undone(t, "no number", d, p, g, func() { wantSet(t, "no number", g, "a", 1, id, 0, api.ErrArg) })
		wantAt(t, "no number", g, "a", id, -1)
	}
	for _, pos := range []int64{-1 << 63, -1, lastPos + 1, 1<<63 - 1} {
		undone(t, "no position", d, p, g, func() { wantSet(t, "no position", g, "a", 1, 0, pos, api.ErrPlaceless) })
	}
	records := []api.Write{generation("a", 1)}
	for _, id := range []int{0, 1, 9, 10, 12345, lastId - 1, lastId} {
		for _, pos := range []int64{0, 1, 127, 128, lastPos - 1, lastPos, 5, 4, 4} {
			wantSet(t, "a position", g, "a", 1, id, pos, api.OK)
			records = append(records, position("a", id, pos))
			wantCommit(t, "a position", g)
			wantAt(t, "a position", g, "a", id, pos)
		}
	}
	wantRecords(t, "set", p, records...)
	want(t, "Positions", len(g.Positions("a")), 7)
}

// 15.4: of several errors the first.
func TestFirstErrorOfSet(t *testing.T) {
	_, p, g := over(t, generation("a", 3))
	want(t, "no time", g.Set(-1, "a", 3, 0, 0), api.ErrArg)
	want(t, "no time", g.Set(lastTime+1, "a", 3, 0, 0), api.ErrArg)
	want(t, "an older generation, no time", g.Set(-1, "a", 2, 0, 0), api.ErrFenced)
	want(t, "no group, no time", g.Set(-1, "b", 3, 0, 0), api.ErrNoGroup)
	want(t, "no position, no group", g.Set(-1, "b", 3, 0, -1), api.ErrPlaceless)
	want(t, "no position, an older generation", g.Set(-1, "a", 2, 0, lastPos+1), api.ErrPlaceless)
	want(t, "no number, no position", g.Set(-1, "a", 2, -1, -1), api.ErrArg)
	want(t, "no number, no position, no group", g.Set(-1, "b", 2, lastId+1, -1), api.ErrArg)
	want(t, "no name, nothing right", g.Set(-1, "B", 2, -1, -1), api.ErrGroup)
	var nobody *group.Groups
	want(t, "nobody, nothing right", nobody.Set(-1, "B", 2, -1, -1), api.ErrNil)
	want(t, "Drop", p.Drop(), api.OK)
	want(t, "dropped, no time", g.Set(-1, "a", 3, 0, 0), api.ErrGone)
	want(t, "dropped, an older generation", g.Set(-1, "a", 2, 0, 0), api.ErrFenced)
	want(t, "dropped, no group", g.Set(-1, "b", 2, 0, 0), api.ErrNoGroup)
}

// 15.3, 15.5: of several errors the first.
func TestFirstErrors(t *testing.T) {
	var nobody *group.Groups
	_, p, g := over(t, generation("a", lastGen), position("a", 3, 1), generation("b", 1))
	join := func(g *group.Groups, now int64, name string) string { return fmt.Sprint(g.Join(now, name)) }
	forget := func(g *group.Groups, now int64, id int) string { return fmt.Sprint(g.Forget(now, id)) }
	want(t, "nobody, no name", join(nobody, -1, "A"), "0 1")
	want(t, "no name, no time", join(g, -1, "A"), "0 150")
	want(t, "no more, no time", join(g, -1, "a"), "0 45")
	want(t, "no time", join(g, -1, "b"), "0 3")
	want(t, "no time", join(g, lastTime+1, "b"), "0 3")
	want(t, "nobody, no number", forget(nobody, -1, -1), "0 1")
	want(t, "no number, no time", forget(g, -1, -1), "0 3")
	want(t, "no number", forget(g, 0, lastId+1), "0 3")
	want(t, "no time", forget(g, -1, 3), "0 3")
	want(t, "no time, and nobody to be forgotten", forget(g, -1, 4), "0 0")
	want(t, "Pending", g.Pending(), 0)
	want(t, "Drop", p.Drop(), api.OK)
	want(t, "dropped, no time", join(g, -1, "b"), "0 105")
	want(t, "dropped, no more", join(g, -1, "a"), "0 45")
	want(t, "dropped, no time", forget(g, -1, 3), "0 105")
	want(t, "dropped, no number", forget(g, -1, -1), "0 3")
	want(t, "dropped, and nobody to be forgotten", forget(g, -1, 4), "0 0")
	want(t, "dropped", g.Commit(), api.ErrGone)
}

// 15.5: nobody's, one group's, some groups' positions.
func TestForget(t *testing.T) {
	d, p, g := over(t, generation("a", 1), generation("b", 1), position("b", 3, 5), position("0", 3, 0), position(long, 3, 6), position("a", 3, 4), position("a", 0, 1), position("b", lastId, 2), position("-", 30, 3), position("a", 33, 3))
	ahead := 10
	for _, id := range []int{-1 << 63, -1, lastId + 1, 1<<63 - 1} {
		undone(t, "no number", d, p, g, func() { wantForget(t, "no number", g, id, 0, api.ErrArg) })
	}
	undone(t, "nobody's", d, p, g, func() { wantForget(t, "nobody's", g, 4, 0, api.OK) })
	wantForget(t, "some groups'", g, 3, 4, api.OK)
	wantForget(t, "once more", g, 3, 0, api.OK)
	want(t, "Pending", g.Pending(), 4)
	wantAt(t, "not yet", g, "a", 3, 4)
	wantForget(t, "the least number", g, 0, 1, api.OK)
	wantForget(t, "the greatest number", g, lastId, 1, api.OK)
	wantCommit(t, "forgotten", g)
	for _, name := range names() {
		wantAt(t, "forgotten", g, name, 3, -1)
	}
	wantAt(t, "another one's", g, "-", 30, 3)
	wantList(t, "Positions", g.Positions("a"), []api.GroupPos{{Group: "a", Topic: 33, Pos: 3}})
	wantList(t, "the groups stay", g.Names(), []string{"a", "b"})
	recs, _ := p.Records()
	wantList(t, "the tombstones", texts(recs[ahead-2:]), []api.Write{position("-", 30, 3), position("a", 33, 3), gone("p.0.3"), gone("p.a.3"), gone("p." + long + ".3"), gone("p.b.3"), gone("p.a.0"), gone("p.b." + fmt.Sprint(lastId))})
}

// 15.5: the newest state counts: what was set and not committed yet, what was forgotten and not committed yet.
func TestForgetPendingOnes(t *testing.T) {
	_, p, g := over(t, generation("a", 1))
	wantSet(t, "pending", g, "a", 1, 3, 5, api.OK)
	wantForget(t, "a pending one", g, 3, 1, api.OK)
	wantForget(t, "once more", g, 3, 0, api.OK)
	wantSet(t, "again", g, "a", 1, 3, 6, api.OK)
	wantForget(t, "again", g, 3, 1, api.OK)
	wantSet(t, "and again", g, "a", 1, 3, 2, api.OK)
	wantCommit(t, "at last", g)
	wantAt(t, "at last", g, "a", 3, 2)
	wantRecords(t, "at last", p, generation("a", 1), position("a", 3, 5), gone("p.a.3"), position("a", 3, 6), gone("p.a.3"), position("a", 3, 2))
	wantForget(t, "a committed one", g, 3, 1, api.OK)
	wantAt(t, "not yet", g, "a", 3, 2)
	wantSet(t, "once more", g, "a", 1, 3, 9, api.OK)
	wantAt(t, "not yet", g, "a", 3, 2)
	wantCommit(t, "now", g)
	wantAt(t, "now", g, "a", 3, 9)
}

// 15.5: it ends with the first refusal, and tells how many were appended ahead of it.
func TestForgetIsRefused(t *testing.T) {
	for n := range 5 {
		d, p, g := over(t, position("b", 3, 5), position("a-1", 3, 4), position("c", 3, 6), position("a", 3, 0), position("d", 2, 0))
		readers := []string{"a", "a-1", "b", "c"}
		room := reserve
		for i, name := range readers[:n] {
			room += sizeOf(gone("p."+name+".3"), int64(5+i), 0)
		}
		d.SetQuota(d.Used() + room)
		errno := api.ErrSpace
		if n == len(readers) {
			errno = api.OK
		}
		wantForget(t, "no room", g, 3, n, errno)
		want(t, "Pending", g.Pending(), n)
		wantCommit(t, "no room", g)
		for i, name := range readers {
			wanted := int64(-1)
			if i >= n {
				wanted = []int64{0, 4, 5, 6}[i]
			}
			wantAt(t, fmt.Sprint("behind ", n), g, name, 3, wanted)
		}
		wantAt(t, "another topic", g, "d", 2, 0)
		d.SetQuota(1 << 24)
		wantForget(t, "room again", g, 3, len(readers)-n, api.OK)
		wantCommit(t, "room again", g)
		recs, _ := p.Records()
		want(t, "records", len(recs), 9)
	}
}

// 15.5, R7: the power goes within it.
func TestForgetWithoutPower(t *testing.T) {
	for n := range 3 {
		d, _, g := over(t, position("b", 3, 5), position("a", 3, 4), position("c", 3, 6))
		d.Fuse(n)
		wantForget(t, "no power", g, 3, n, api.ErrDead)
		wantForget(t, "no power", g, 3, 0, api.ErrDead)
		want(t, "Commit", g.Commit(), []api.Errno{api.OK, api.ErrDead, api.ErrDead}[n]) // where nothing is pending, nothing is to be done
		want(t, "Pending", g.Pending(), n)
		for i, name := range []string{"a", "b", "c"} {
			wantAt(t, "no power", g, name, 3, int64(i+4))
		}
	}
}

// 15.3, 15.4: where the topic refuses, nothing has changed.
func TestTheTopicRefuses(t *testing.T) {
	for what, spoil := range map[string]struct {
		errno api.Errno
		do    func(t *testing.T, p *topic.Topic)
	}{
		"no room":  {api.ErrSpace, func(t *testing.T, p *topic.Topic) { p.Disk().SetQuota(p.Disk().Used() + reserve) }},
		"no power": {api.ErrDead, func(t *testing.T, p *topic.Topic) { unpower(t, p.Disk()) }},
		"dropped":  {api.ErrGone, func(t *testing.T, p *topic.Topic) { want(t, "Drop", p.Drop(), api.OK) }},
	} {
		d, p, g := over(t, generation("a", 1), position("a", 3, 5))
		spoil.do(t, p)
		undone(t, what, d, p, g, func() {
			wantJoin(t, what, g, "a", 0, spoil.errno)
			wantJoin(t, what, g, "b", 0, spoil.errno)
			wantSet(t, what, g, "a", 1, 3, 6, spoil.errno)
			wantSet(t, what, g, "a", 2, 3, 6, api.ErrFenced) // nobody has joined
			wantSet(t, what, g, "b", 1, 3, 6, api.ErrNoGroup)
			wantForget(t, what, g, 3, 0, spoil.errno)
			wantForget(t, what, g, 4, 0, api.OK)
		})
		if what != "no room" {
			continue
		}
		d.SetQuota(1 << 24)
		wantJoin(t, "room again", g, "a", 2, api.OK)
		wantJoin(t, "room again", g, "b", 1, api.OK)
		wantSet(t, "room again", g, "a", 2, 3, 6, api.OK)
		wantForget(t, "room again", g, 3, 1, api.OK)
	}
}

// 15.3, 15.4: as many segments as may be.
func TestTheTopicIsFull(t *testing.T) {
	_, p := created(t, 256)
	g := begun(t, p)
	var e api.Errno
	joined := int64(0)
	for e == api.OK && joined < 5000 {
		_, e = g.Join(0, "a")
		joined++
	}
	want(t, "as many segments as may be", e, api.ErrSegs)
	wantGen(t, "the roll has committed", g, "a", joined-1)
	want(t, "Pending", g.Pending(), 0)
	wantJoin(t, "once more", g, "a", 0, api.ErrSegs)
	wantSet(t, "a position", g, "a", joined-1, 3, 1, api.ErrSegs)
	mergeAll(t, p, 0)
	wantJoin(t, "merged", g, "a", joined, api.OK)
	wantSet(t, "merged", g, "a", joined-1, 3, 1, api.ErrFenced)
	wantSet(t, "merged", g, "a", joined, 3, 1, api.OK)
}

// 15.3, 15.4, 15.5: the greatest offset.
func TestOffsetsAtTheirEnd(t *testing.T) {
	d, _ := laid(t, generation("a", 1), position("a", 3, 7))
	m, e := manifest.Load(d, 0)
	want(t, "manifest.Load", e, api.OK)
	m.Next = lastPos - 2
	want(t, "manifest.Save", manifest.Save(d, m), api.OK)
	d, p := reopened(t, d.Image(), 65536)
	g := begun(t, p)
	wantJoin(t, "the last but one", g, "a", 2, api.OK)
	wantSet(t, "the last one", g, "a", 2, 4, 8, api.OK)
	wantGen(t, "not yet", g, "a", 1)
	undone(t, "no more", d, p, g, func() {
		wantJoin(t, "no more", g, "a", 0, api.ErrOffsets)
		wantSet(t, "no more", g, "a", 2, 4, 9, api.ErrOffsets)
		wantForget(t, "no more", g, 3, 0, api.ErrOffsets)
	})
	wantCommit(t, "the last one", g)
	wantGen(t, "the last one", g, "a", 2)
	wantAt(t, "the last one", g, "a", 4, 8)
	wantAt(t, "it stays", g, "a", 3, 7)
}

// 15.6
func TestCommit(t *testing.T) {
	d, p, g := none(t)
	ops := d.Ops()
	want(t, "nothing is pending", g.Commit(), api.OK)
	want(t, "operations", d.Ops(), ops)
	wantJoin(t, "pending", g, "a", 1, api.OK)
	want(t, "operations", d.Ops(), ops+1)
	want(t, "Commit", g.Commit(), api.OK)
	want(t, "operations", d.Ops(), ops+2)
	want(t, "Commit", g.Commit(), api.OK)
	want(t, "operations", d.Ops(), ops+2)
	wantJoin(t, "pending", g, "a", 2, api.OK)
	unpower(t, d)
	for range 2 {
		want(t, "no power", g.Commit(), api.ErrDead)
		wantGen(t, "no power", g, "a", 1)
		want(t, "Pending", g.Pending(), 1)
	}
	want(t, "Drop", p.Drop(), api.ErrDead)
	want(t, "dropped", g.Commit(), api.ErrGone)
	wantGen(t, "dropped", g, "a", 1)
	want(t, "Pending of a dropped topic", g.Pending(), 0)
}

// 15.6: a commit that somebody else has done, and a roll, count as well.
func TestOthersCommit(t *testing.T) {
	for what, commit := range map[string]func(*topic.Topic) api.Errno{"Commit": (*topic.Topic).Commit, "Roll": (*topic.Topic).Roll} {
		_, p, g := none(t)
		wantJoin(t, what, g, "a", 1, api.OK)
		wantSet(t, what, g, "a", 1, 3, 5, api.OK)
		wantGen(t, "not yet", g, "a", 0)
		want(t, what, commit(p), api.OK)
		wantGen(t, what, g, "a", 1)
		wantAt(t, what, g, "a", 3, 5)
		want(t, "Pending", g.Pending(), 0)
		wantJoin(t, what, g, "a", 2, api.OK)
		wantGen(t, "not yet", g, "a", 1)
		wantSet(t, what, g, "a", 2, 3, 6, api.OK)
		want(t, what, commit(p), api.OK)
		wantList(t, what+": Positions", g.Positions("a"), []api.GroupPos{{Group: "a", Topic: 3, Pos: 6}})
		wantJoin(t, what, g, "b", 1, api.OK)
		wantList(t, "Names, not yet", g.Names(), []string{"a"})
		want(t, what, commit(p), api.OK)
		wantList(t, what+": Names", g.Names(), []string{"a", "b"})
		wantForget(t, what, g, 3, 1, api.OK)
		wantAt(t, "not yet", g, "a", 3, 6)
		want(t, what, commit(p), api.OK)
		wantAt(t, what, g, "a", 3, -1)
	}
}

// 15.6: an Append that rolls commits what was pending ahead of it, and not what it appends.
func TestAppendsThatRoll(t *testing.T) {
	_, p := created(t, 256)
	g := begun(t, p)
	rolled := 0
	for gen := int64(1); gen < 80; gen++ {
		segs := p.State().Segs
		wantJoin(t, "rolling", g, "a", gen, api.OK)
		if p.State().Segs == segs {
			continue
		}
		rolled++
		wantGen(t, "rolled", g, "a", gen-1)
		want(t, "Pending", g.Pending(), 1)
		wantSet(t, "rolled", g, "a", gen-1, 3, 1, api.ErrFenced)
	}
	want(t, "rolls", rolled > 5, true)
}

// 15.5, 15.6: a Forget in whose midst the topic rolls.
func TestForgetThatRolls(t *testing.T) {
	for ahead := range 12 {
		_, p := created(t, 256)
		g := begun(t, p)
		for range ahead {
			wantJoin(t, "ahead", g, "z", second(g.Generation("z"))+1, api.OK)
			wantCommit(t, "ahead", g)
		}
		var all []string
		for i := range 20 {
			all = append(all, fmt.Sprintf("n%02d", i))
			wantJoin(t, "ahead", g, all[i], 1, api.OK)
			wantSet(t, "ahead", g, all[i], 1, 3, 7, api.OK)
		}
		wantCommit(t, "ahead", g)
		wantForget(t, "rolling", g, 3, 20, api.OK)
		left := 0
		for _, name := range all {
			if _, there, _ := g.At(name, 3); there {
				left++
			}
		}
		want(t, "as many are left as are pending", left, g.Pending())
		want(t, "some are committed", left > 0 && left < 20, true)
		wantCommit(t, "rolling", g)
		for _, name := range all {
			wantAt(t, "forgotten", g, name, 3, -1)
		}
	}
}

func second(gen int64, _ bool, _ api.Errno) int64 { return gen }
