package merge_test

import (
	"fmt"
	"slices"
	"strings"
	"testing"

	"chronicle/api"
	"chronicle/merge"
	"chronicle/probe"
	"chronicle/simfs"
	"chronicle/topic"
)

// wantNone fails if a merge was begun all the same, another error is told, or something was done.
func wantNone(t *testing.T, what string, p *topic.Topic, errno api.Errno) {
	t.Helper()
	d := p.Disk()
	image, ops, state := probe.Key(d.Image()), d.Ops(), p.State()
	m, e := merge.Start(p)
	if m != nil || e != errno {
		t.Errorf("%s: Start = %v, %d, want none, %d", what, m, e, errno)
	}
	want(t, what+": the disk is as it was", probe.Key(d.Image()) == image && d.Ops() == ops, true)
	want(t, what+": State", p.State(), state)
}

// 11.4
func TestStart(t *testing.T) {
	wantNone(t, "nil", nil, api.ErrNil)
	wantNone(t, "zero", &topic.Topic{}, api.ErrNil)

	d, p := made(t)
	for range 2 {
		wantNone(t, "nothing", p, api.ErrNoMerge)
		want(t, "it is released: Hold", p.Hold(), api.OK)
		wantNone(t, "nothing, and held", p, api.ErrMerging)
		want(t, "it is held: Hold", p.Hold(), api.ErrMerging)
		p.Release()
	}
	lay(t, p, put(0, "a", "1"))
	commit(t, p)
	wantNone(t, "one that is written to", p, api.ErrNoMerge)
	d.SetQuota(d.Used() + 17)
	want(t, "Roll", p.Roll(), api.ErrSpace)
	wantNone(t, "one that a roll which failed has sealed", p, api.ErrNoMerge)
	d.SetQuota(1 << 20)
	roll(t, p)

	p.Hold()
	wantNone(t, "held", p, api.ErrMerging)
	p.Release()
	image, ops := probe.Key(d.Image()), d.Ops()
	m := begun(t, p)
	want(t, "Over", m.Over(), false)
	want(t, "nothing is written", probe.Key(d.Image()) == image && d.Ops() == ops, true)
	wantNone(t, "another merge", p, api.ErrMerging)
	want(t, "Hold", p.Hold(), api.ErrMerging)
	run(t, m, 0)
	again := begun(t, p)
	wantStep(t, "the first one", m, 0, api.MergeStep{}, api.ErrOver)
	wantNone(t, "another one still", p, api.ErrMerging)
	want(t, "Stop", again.Stop(), api.OK)

	p.Drop()
	wantNone(t, "dropped", p, api.ErrGone)
	want(t, "Hold", p.Hold(), api.ErrGone)
}

// The disk is not asked when a merge is begun.
func TestStartWithoutPower(t *testing.T) {
	d, p := filled(t, []api.Record{put(0, "a", "1")}, nil)
	d.Fuse(0)
	d.SyncDir()
	m := begun(t, p)
	want(t, "Over", m.Over(), false)
	wantStep(t, "no power", m, 0, api.MergeStep{Kind: api.MgGive}, api.ErrDead)
	wantOver(t, "no power", m, p)
}

// R1; 11.5, 11.7
func TestNilMerges(t *testing.T) {
	for what, m := range map[string]*merge.Merge{"nil": nil, "zero": {}} {
		for _, now := range []int64{-1, 0, 9} {
			wantStep(t, what, m, now, api.MergeStep{}, api.ErrNil)
			want(t, what+": Stop", m.Stop(), api.ErrNil)
			want(t, what+": Over", m.Over(), true)
		}
	}
}

// 11.5
func TestStepsOfTheExample(t *testing.T) {
	a, b, c := put(0, "a", "1"), put(1, "b", "1"), put(2, "a", "2")
	d, p := filled(t, []api.Record{a, b}, []api.Record{c}, nil)
	m := begun(t, p)
	steps := append([]api.MergeStep{does(api.MgDrop, 1, 0), does(api.MgMake, 4, 1), does(api.MgKeep, 4, 1), does(api.MgKeep, 4, 2)},
		tail(4, 2, 0, 1, 2)...)
	want(t, "so many steps", len(steps), 12)
	wantSteps(t, m, 0, steps...)
	wantOver(t, "behind the end", m, p)
	wantRecords(t, "merged", p, b, c)
	wantList(t, "files", names(d.Image()), []string{"t3.3.seg", "t3.4.hint", "t3.4.seg", "t3.man"})
	wantRecords(t, "opened anew", opened(t, loaded(d.Crash(nil))), b, c)
	want(t, "all is durable", probe.Key(d.Crash(nil)) == probe.Key(d.Image()), true)
}

// What each step does to the disk: the operations, and what is there behind it.
func TestDeeds(t *testing.T) {
	a, b, c := put(0, "a", "1"), put(1, "b", "1"), put(2, "a", "2")
	d, p := filled(t, []api.Record{a, b}, []api.Record{c}, nil)
	d.Remove("t3.2.hint")
	d.SyncDir()
	m := begun(t, p)
	before := []string{"t3.1.hint", "t3.1.seg", "t3.2.seg", "t3.3.seg", "t3.man"}
	with := func(list []string, more ...string) []string {
		return slices.Sorted(slices.Values(slices.Concat(list, more)))
	}
	open := with(before, "t3.4.seg")
	both := with(open, "t3.4.hint")
	after := []string{"t3.2.seg", "t3.3.seg", "t3.4.hint", "t3.4.seg", "t3.man"}
	rest := []string{"t3.3.seg", "t3.4.hint", "t3.4.seg", "t3.man"}
	for i, c := range []struct {
		kind, ops int
		seen      []string
		durable   []string
	}{
		{api.MgDrop, 0, before, before},
		{api.MgMake, 3, open, before}, // its head is appended and synced
		{api.MgKeep, 1, open, before},
		{api.MgKeep, 1, open, before},
		{api.MgSeal, 2, open, before},
		{api.MgHint, 3, both, before},
		{api.MgDir, 1, both, both},
		{api.MgCommit, 5, both, both},
		{api.MgRemove, 2, after, both},
		{api.MgRemove, 1, rest, both}, // it has no hint
		{api.MgDir, 1, rest, rest},
		{api.MgEnd, 0, rest, rest},
	} {
		ops := d.Ops()
		s, e := m.Step(0)
		what := fmt.Sprint("step ", i)
		want(t, what, fmt.Sprint(s.Kind, e), fmt.Sprint(c.kind, api.OK))
		want(t, what+": operations", d.Ops()-ops, c.ops)
		wantList(t, what+": files", names(d.Image()), c.seen)
		wantList(t, what+": durable", names(d.Crash(nil)), c.durable)
	}
	wantList(t, "the new segment", looked(t, d, 4, true), []api.Record{b, c})
	got, _ := d.Read("t3.4.hint", 0, 999)
	want(t, "its hint", string(got), string(hintOf(t, 4, []api.Record{b, c})))
}

// All of the olds is dropped: no new segment is made.
func TestNothingStays(t *testing.T) {
	d, p := filled(t, []api.Record{put(0, "a", "1"), gone(1, "a")}, []api.Record{gone(2, "b"), put(3, "c", "3")}, []api.Record{put(4, "c", "4")})
	m := begun(t, p)
	wantSteps(t, m, 10, does(api.MgDrop, 1, 0), does(api.MgTomb, 1, 1), does(api.MgTomb, 2, 2), does(api.MgDrop, 2, 3),
		does(api.MgDir, 0, 0), does(api.MgCommit, 0, 3))
	wantSteps(t, m, 10, removals(1, 2)...)
	wantOver(t, "the end", m, p)
	wantRecords(t, "what is left", p, put(4, "c", "4"))
	want(t, "the mark", p.State().Mark, 3)
	wantList(t, "files", names(d.Image()), []string{"t3.3.seg", "t3.man"})
	want(t, "opened anew: the mark", opened(t, d).State().Mark, 3)
}

// Old segments without records: no step is about their records; one between others, at the beginning and at the end.
func TestOldsWithoutRecords(t *testing.T) {
	a, b := put(0, "a", "1"), put(1, "b", "2")
	for what, c := range map[string]struct {
		shelves []shelf
		steps   []api.MergeStep
	}{
		"alone":        {[]shelf{{5, nil}, {6, nil}}, nil},
		"two":          {[]shelf{{5, nil}, {4, nil}, {6, nil}}, nil},
		"at the ends":  {[]shelf{{5, nil}, {3, []api.Record{a}}, {8, nil}, {9, nil}}, []api.MergeStep{does(api.MgMake, 10, 0), does(api.MgKeep, 10, 0)}},
		"in the midst": {[]shelf{{5, []api.Record{a}}, {3, nil}, {2, nil}, {8, []api.Record{b}}, {9, nil}}, []api.MergeStep{does(api.MgMake, 10, 0), does(api.MgKeep, 10, 0), does(api.MgKeep, 10, 1)}},
	} {
		p := opened(t, stored(t, api.Manifest{}, c.shelves...))
		olds := p.Sealed()
		before, _ := p.Records()
		m := begun(t, p)
		steps := slices.Concat(c.steps, []api.MergeStep{does(api.MgDir, 0, 0), does(api.MgCommit, 0, 0)}, removals(olds...))
		if c.steps != nil {
			steps = append(c.steps, tail(10, c.steps[len(c.steps)-1].Offset, 0, olds...)...)
		}
		wantSteps(t, m, 0, steps...)
		wantOver(t, what, m, p)
		wantRecords(t, what, p, before...)
	}
}

// A record that fits the new segment just, and one byte more.
func TestRoomOfNewSegments(t *testing.T) {
	for _, c := range []struct {
		sizes []int
		news  []int // how many records each of the new segments gets
	}{
		{[]int{100, 118}, []int{2}}, // 21 + 100 + 118 + 17 is 256
		{[]int{100, 119}, []int{1, 1}},
		{[]int{118, 100}, []int{2}},
		{[]int{100, 100, 18}, []int{3}},
		{[]int{100, 100, 19, 20}, []int{2, 2}},
		{[]int{218}, []int{1}},
		{[]int{219}, []int{1}}, // the first one has room, whatever its size
		{[]int{1000, 15, 1000, 20, 15}, []int{1, 1, 1, 2}},
		{[]int{20, 1000, 20}, []int{1, 1, 1}},
		{[]int{100, 100, 100, 100, 100}, []int{2, 2, 1}},
	} {
		d, p := made(t)
		var all []api.Record
		for i, n := range c.sizes {
			all = append(all, sized(int64(i), fmt.Sprint(i), n))
			lay(t, p, all[i])
			roll(t, p)
		}
		olds := p.Sealed()
		m := begun(t, p)
		off, seg := int64(0), len(c.sizes)+2
		for i, n := range c.news {
			wantSteps(t, m, 0, does(api.MgMake, seg, off))
			for range n {
				wantSteps(t, m, 0, does(api.MgKeep, seg, off))
				off++
			}
			wantSteps(t, m, 0, does(api.MgSeal, seg, off-1), does(api.MgHint, seg, 0))
			wantList(t, "the new segment", looked(t, d, seg, true), all[off-int64(n):off])
			if i < len(c.news)-1 {
				seg++
			}
		}
		wantSteps(t, m, 0, does(api.MgDir, 0, 0), does(api.MgCommit, len(c.news), 0))
		wantSteps(t, m, 0, removals(olds...)...)
		wantRecords(t, fmt.Sprint(c.sizes), p, all...)
	}
}

// The limit is the topic's now: what was written under another one goes into segments of this one.
func TestNewSegmentsHaveTheLimitOfNow(t *testing.T) {
	var recs []api.Record
	for i := range int64(12) {
		recs = append(recs, sized(i, fmt.Sprint(i), 60))
	}
	d := stored(t, api.Manifest{}, shelf{1, recs}, shelf{2, nil})
	for limit, news := range map[int]int{256: 4, 277: 4, 278: 3, 65536: 1} {
		p := openedWith(t, loaded(d.Image()), limit)
		m := begun(t, p)
		run(t, m, 0)
		want(t, fmt.Sprint("segments with the limit ", limit), len(p.Sealed()), news)
		wantRecords(t, "merged", p, recs...)
	}
}

// A new segment whose first record is superseded as soon as it is made: another one comes into it, or none.
func TestNewSegmentsThatStayEmpty(t *testing.T) {
	a, b, c := put(0, "a", "1"), put(1, "b", "2"), put(2, "c", "3")
	d, p := filled(t, []api.Record{a, b, c}, nil)
	m := begun(t, p)
	wantSteps(t, m, 0, does(api.MgMake, 3, 0))
	lay(t, p, put(3, "a", "x"), put(4, "b", "y"))
	commit(t, p)
	wantSteps(t, m, 0, does(api.MgDrop, 1, 0), does(api.MgDrop, 1, 1), does(api.MgKeep, 3, 2))
	wantSteps(t, m, 0, tail(3, 2, 0, 1)...)
	wantRecords(t, "another one", p, c, put(3, "a", "x"), put(4, "b", "y"))

	d, p = filled(t, []api.Record{put(0, "x", ""), gone(1, "x")}, []api.Record{put(2, "c", "3")}, nil)
	m = begun(t, p)
	wantSteps(t, m, 9, does(api.MgDrop, 1, 0), does(api.MgMake, 4, 1))
	lay(t, p, at(9, put(3, "c", "z")))
	commit(t, p)
	wantSteps(t, m, 10, does(api.MgTomb, 1, 1), does(api.MgDrop, 2, 2), does(api.MgSeal, 4, 0), does(api.MgHint, 4, 0), does(api.MgDir, 0, 0), does(api.MgCommit, 1, 2))
	wantSteps(t, m, 10, removals(1, 2)...)
	wantRecords(t, "none", p, at(9, put(3, "c", "z")))
	wantList(t, "sealed with nothing in it", looked(t, d, 4, true), nil)
	wantList(t, "Sealed", p.Sealed(), []int{4})
	wantRecords(t, "opened anew", opened(t, loaded(d.Crash(nil))), at(9, put(3, "c", "z")))
	// Its Last is its base less 1, at the base 0 too.
	_, p = filled(t, []api.Record{put(0, "a", "1")}, nil)
	m = begun(t, p)
	wantSteps(t, m, 0, does(api.MgMake, 3, 0))
	lay(t, p, put(1, "a", "2"))
	commit(t, p)
	wantSteps(t, m, 0, does(api.MgDrop, 1, 0), does(api.MgSeal, 3, -1), does(api.MgHint, 3, 0))
	run(t, m, 0)
	// The next merge goes over it.
	roll(t, p)
	m = begun(t, p)
	wantSteps(t, m, 0, does(api.MgMake, 5, 1), does(api.MgKeep, 5, 1))
	wantSteps(t, m, 0, tail(5, 1, 0, 3, 2)...)
	wantRecords(t, "the next merge", p, put(1, "a", "2"))
}

// What is committed between two steps supersedes; what is pending does not.
func TestWhatIsSupersededMeanwhile(t *testing.T) {
	a, b, c := put(0, "a", "1"), put(1, "b", "2"), put(2, "c", "3")
	_, p := filled(t, []api.Record{a, b, c}, nil)
	m := begun(t, p)
	wantSteps(t, m, 0, does(api.MgMake, 3, 0), does(api.MgKeep, 3, 0))
	lay(t, p, put(3, "b", "x"))
	wantSteps(t, m, 0, does(api.MgKeep, 3, 1)) // the other one is pending
	lay(t, p, gone(4, "c"), put(5, "a", "y"))
	commit(t, p)
	wantSteps(t, m, 0, does(api.MgDrop, 1, 2))
	wantSteps(t, m, 0, tail(3, 1, 0, 1)...)
	wantRecords(t, "merged", p, a, b, put(3, "b", "x"), gone(4, "c"), put(5, "a", "y"))
	for key, value := range map[string]string{"a": "y", "b": "x", "c": ""} {
		r, ok, e := p.Get(key)
		want(t, key, fmt.Sprint(r.Value, ok, e), fmt.Sprint(value, key != "c", api.OK))
	}
}

// The segment is full, and then the record that had no room is superseded: it is sealed all the same, and the next one begins with the next record.
func TestARecordThatIsSupersededBehindTheSeal(t *testing.T) {
	list := []api.Record{sized(0, "a", 150), sized(1, "b", 150), sized(2, "c", 30)}
	_, p := filled(t, list[:1], list[1:2], list[2:], nil)
	m := begun(t, p)
	wantSteps(t, m, 0, does(api.MgMake, 5, 0), does(api.MgKeep, 5, 0), does(api.MgSeal, 5, 0))
	lay(t, p, put(3, "b", "x"))
	commit(t, p)
	wantSteps(t, m, 0, does(api.MgHint, 5, 0), does(api.MgDrop, 2, 1), does(api.MgMake, 6, 2), does(api.MgKeep, 6, 2),
		does(api.MgSeal, 6, 2), does(api.MgHint, 6, 0), does(api.MgDir, 0, 0), does(api.MgCommit, 2, 0))
	wantSteps(t, m, 0, removals(1, 2, 3)...)
	wantRecords(t, "merged", p, list[0], list[2], put(3, "b", "x"))
}

// The time is the topic's clock: it goes up with what is handed in, and never down.
func TestTimes(t *testing.T) {
	list := []api.Record{gone(0, "a"), at(1, gone(1, "b")), at(2, gone(2, "c")), at(3, gone(3, "d")), at(4, gone(4, "e"))}
	_, p := filled(t, list, nil)
	m := begun(t, p)
	wantSteps(t, m, 9, does(api.MgMake, 3, 0), does(api.MgKeep, 3, 0))
	want(t, "the clock", p.State().Clock, 9)
	wantSteps(t, m, 11, does(api.MgTomb, 1, 1))
	for _, now := range []int64{-1, 0, 5, 10, 11, lastTime + 1, -1 << 63, 1<<63 - 1} {
		other, q := filled(t, list, nil)
		n := begun(t, q)
		wantSteps(t, n, 11, does(api.MgTomb, 1, 0), does(api.MgTomb, 1, 1))
		wantSteps(t, n, now, does(api.MgMake, 3, 2), does(api.MgKeep, 3, 2)) // the time is 11 still
		want(t, "the clock", q.State().Clock, 11)
		want(t, "power", other.Dead(), false)
	}
	wantSteps(t, m, 0, does(api.MgKeep, 3, 2))
	want(t, "Tick", p.Tick(13), 13) // somebody else's clock is the topic's too
	wantSteps(t, m, 0, does(api.MgTomb, 1, 3))
	wantSteps(t, m, lastTime, does(api.MgTomb, 1, 4))
	wantSteps(t, m, 0, tail(3, 2, 5, 1)...)
	wantRecords(t, "merged", p, list[0], list[2])
	want(t, "the clock", p.State().Clock, lastTime)
	want(t, "the mark", p.State().Mark, 5)
	// Every step ticks, that of the end too; a call that is refused does not.
	_, p = filled(t, list[:1], nil)
	m = begun(t, p)
	for now := int64(20); !m.Over(); now++ {
		m.Step(now)
		want(t, "the clock", p.State().Clock, now)
	}
	clock := p.State().Clock
	m.Step(1000)
	want(t, "the clock", p.State().Clock, clock)
}

// A tombstone that was passed for its age counts for the mark, whatever comes behind; one that was superseded does not.
func TestMarksOfMerges(t *testing.T) {
	list := []api.Record{gone(0, "a"), gone(1, "b"), put(2, "b", "1"), gone(3, "c"), put(4, "d", "")}
	_, p := filled(t, list, nil)
	m := begun(t, p)
	wantSteps(t, m, 10, does(api.MgTomb, 1, 0), does(api.MgDrop, 1, 1), does(api.MgMake, 3, 2), does(api.MgKeep, 3, 2))
	lay(t, p, at(10, put(5, "a", "new")), at(10, gone(6, "c")))
	commit(t, p)
	wantSteps(t, m, 10, does(api.MgDrop, 1, 3), does(api.MgKeep, 3, 4))
	wantSteps(t, m, 10, tail(3, 4, 1, 1)...)
	want(t, "the mark", p.State().Mark, 1)
	// A later merge with a lower mark, or none, leaves the topic's as it is.
	p.Tick(20)
	roll(t, p)
	m = begun(t, p)
	steps := run(t, m, 20)
	want(t, "the mark that is told", slices.Contains(steps, does(api.MgCommit, 1, 7)), true)
	want(t, "the mark", p.State().Mark, 7)
	m = begun(t, p)
	steps = run(t, m, 20)
	want(t, "the mark that is told", slices.Contains(steps, does(api.MgCommit, 1, 0)), true)
	want(t, "the mark", p.State().Mark, 7)
}

// What is rolled meanwhile is not merged: it is still there, and stays behind the new segments.
func TestRollsWithinAMerge(t *testing.T) {
	a, b := put(0, "a", "1"), put(1, "b", "2")
	d, p := filled(t, []api.Record{a}, []api.Record{b})
	m := begun(t, p)
	roll(t, p)
	wantSteps(t, m, 0, does(api.MgMake, 4, 0), does(api.MgKeep, 4, 0))
	lay(t, p, put(2, "a", "3"))
	roll(t, p)
	wantSteps(t, m, 0, tail(4, 0, 0, 1)...)
	wantRecords(t, "merged", p, a, b, put(2, "a", "3"))
	wantList(t, "Sealed", p.Sealed(), []int{4, 2, 3})
	wantList(t, "files", names(d.Image()), strings.Fields("t3.2.hint t3.2.seg t3.3.hint t3.3.seg t3.4.hint t3.4.seg t3.5.seg t3.man"))
}

// Other files on the disk are not touched, those of other topics neither.
func TestOtherFilesStay(t *testing.T) {
	d, p := filled(t, []api.Record{put(0, "a", "1"), put(1, "a", "2")}, nil)
	other, _ := topic.Create(d, 33, 256, 10, 0)
	lay(t, other, put(0, "a", "1"))
	roll(t, other)
	for _, name := range []string{"t3.1.segx", "t3.99.hint", "t31.3.seg", "catalog"} {
		d.Create(name)
	}
	before := names(d.Image())
	run(t, begun(t, p), 0)
	after := slices.DeleteFunc(before, func(name string) bool { return name == "t3.1.hint" || name == "t3.1.seg" })
	wantList(t, "files", names(d.Image()), slices.Sorted(slices.Values(append(after, "t3.3.hint", "t3.3.seg"))))
	wantRecords(t, "the other one", other, put(0, "a", "1"))
}

// The topic 0, and the greatest numbers.
func TestNumbersAtTheirEnds(t *testing.T) {
	for _, id := range []int{0, lastId} {
		d, _ := simfs.New(1 << 20)
		p, _ := topic.Create(d, id, 256, 1<<40, lastTime)
		lay(t, p, at(lastTime, put(0, "a", "1")), at(lastTime, gone(1, "a")))
		roll(t, p)
		m := begun(t, p)
		wantSteps(t, m, lastTime, does(api.MgDrop, 1, 0), does(api.MgMake, 3, 1), does(api.MgKeep, 3, 1))
		wantSteps(t, m, lastTime, tail(3, 1, 0, 1)...)
		wantRecords(t, "merged", p, at(lastTime, gone(1, "a")))
		want(t, "files", len(d.Image()), 4)
	}
	r := put(lastOffset, "a", "1")
	p := opened(t, stored(t, api.Manifest{NextSeg: lastId}, shelf{7, []api.Record{put(lastOffset-1, "a", "1")}}, shelf{9, []api.Record{r}}, shelf{8, nil}))
	m := begun(t, p)
	wantSteps(t, m, 0, does(api.MgDrop, 7, lastOffset-1), does(api.MgMake, lastId, lastOffset), does(api.MgKeep, lastId, lastOffset))
	wantSteps(t, m, 0, tail(lastId, lastOffset, 0, 7, 9)...)
	wantRecords(t, "merged", p, r)
	// No number is left for the next one.
	m = begun(t, p)
	wantStep(t, "no number", m, 0, does(api.MgGive, 0, 0), api.ErrConfig)
	wantOver(t, "no number", m, p)
	wantRecords(t, "given up", p, r)
}
