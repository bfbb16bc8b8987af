package merge_test

import (
	"fmt"
	"strings"
	"testing"

	"chronicle/api"
	"chronicle/merge"
	"chronicle/probe"
	"chronicle/simfs"
	"chronicle/topic"
)

// mixed is the records of the topic that most of these tests merge, in three sealed segments, and behind them: some are superseded, one is an old tombstone at the time 10, and what is needed takes two new segments.
func mixed() [][]api.Record {
	return [][]api.Record{
		{put(0, "a", "1"), gone(1, "b"), sized(2, "c", 90)},
		{put(3, "d", "4"), sized(4, "e", 120), put(5, "a", "5")},
		{at(5, gone(6, "f")), at(5, sized(7, "g", 100))},
		{at(5, put(8, "d", "8")), at(5, put(9, "h", "9"))},
	}
}

// scene is a topic with mixed records that is merged at the time 10.
type scene struct {
	d     *simfs.Disk
	p     *topic.Topic
	image string
	state api.TopicState
	recs  []api.Record
}

func ready(t *testing.T) *scene {
	t.Helper()
	d, p := filled(t, mixed()...)
	lay(t, p, at(5, put(10, "i", "pending")))
	p.Tick(10)
	recs, _ := p.Records()
	return &scene{d, p, probe.Key(d.Image()), p.State(), recs}
}

// story is the steps of the merge of mixed records.
func story() []api.MergeStep {
	return append([]api.MergeStep{
		does(api.MgDrop, 1, 0), does(api.MgTomb, 1, 1), does(api.MgMake, 5, 2), does(api.MgKeep, 5, 2),
		does(api.MgDrop, 2, 3), does(api.MgKeep, 5, 4), does(api.MgSeal, 5, 4), does(api.MgHint, 5, 0),
		does(api.MgMake, 6, 5), does(api.MgKeep, 6, 5), does(api.MgKeep, 6, 6), does(api.MgKeep, 6, 7),
		does(api.MgSeal, 6, 7), does(api.MgHint, 6, 0), does(api.MgDir, 0, 0), does(api.MgCommit, 2, 2),
	}, removals(1, 2, 3)...)
}

// moment is how many steps of the story there are up to the moment of the merge, this one too.
const moment = 16

// merged is what is left behind that moment.
func merged() []api.Record {
	l := mixed()
	return []api.Record{l[0][2], l[1][1], l[1][2], l[2][0], l[2][1], l[3][0], l[3][1]}
}

// wantAsBefore fails unless all is as if there had been no merge, but for the numbers that were told.
func (s *scene) wantAsBefore(t *testing.T, what string) {
	t.Helper()
	want(t, what+": the disk is as it was", probe.Key(s.d.Image()) == s.image, true)
	want(t, what+": State", s.p.State(), s.state)
	wantRecords(t, what, s.p, s.recs...)
	wantList(t, what+": Sealed", s.p.Sealed(), []int{1, 2, 3})
}

// wantGiven fails unless the next step gives the merge up so.
func (s *scene) wantGiven(t *testing.T, what string, m *merge.Merge, errno api.Errno) {
	t.Helper()
	wantStep(t, what, m, 10, does(api.MgGive, 0, 0), errno)
	wantOver(t, what, m, s.p)
}

func TestTheStory(t *testing.T) {
	s := ready(t)
	m := begun(t, s.p)
	wantSteps(t, m, 10, story()...)
	wantOver(t, "the end", m, s.p)
	wantRecords(t, "merged", s.p, merged()...)
	want(t, "the mark", s.p.State().Mark, 2)
}

// 11.6, 11.7: Stop at each step.
func TestStop(t *testing.T) {
	for n := range story() {
		s := ready(t)
		m := begun(t, s.p)
		wantSteps(t, m, 10, story()[:n]...)
		what := fmt.Sprint("behind ", n, " steps")
		want(t, what+": Stop", m.Stop(), api.OK)
		wantOver(t, what, m, s.p)
		if n < moment {
			s.wantAsBefore(t, what)
			continue
		}
		wantRecords(t, what, s.p, merged()...)
		wantList(t, what+": files", names(s.d.Image()), strings.Fields("t3.4.seg t3.5.hint t3.5.seg t3.6.hint t3.6.seg t3.man"))
		wantList(t, what+": durable", names(s.d.Crash(nil)), names(s.d.Image()))
		want(t, what+": Stop does not tick", s.p.State().Clock, 10)
	}
}

// Numbers that were told are not told again, and another merge goes well.
func TestAnotherMergeBehindStop(t *testing.T) {
	s := ready(t)
	m := begun(t, s.p)
	wantSteps(t, m, 10, story()[:10]...)
	want(t, "Stop", m.Stop(), api.OK)
	m = begun(t, s.p)
	wantSteps(t, m, 10, story()[:2]...)
	wantSteps(t, m, 10, does(api.MgMake, 7, 2), does(api.MgKeep, 7, 2))
	want(t, "Stop", m.Stop(), api.OK)
	s.wantAsBefore(t, "twice")
	m = begun(t, s.p)
	for _, step := range story() {
		switch {
		case step.Kind == api.MgCommit || step.Seg < 5:
		default:
			step.Seg += 3
		}
		wantSteps(t, m, 10, step)
	}
	wantRecords(t, "at last", s.p, merged()...)
	wantList(t, "Sealed", s.p.Sealed(), []int{8, 9})
}

// What the tombstones of a merge that was given up have left in its mark is of no account to the next one.
func TestMarksOfMergesThatWereGivenUp(t *testing.T) {
	_, p := filled(t, []api.Record{gone(0, "a"), gone(1, "b")}, nil)
	m := begun(t, p)
	wantSteps(t, m, 10, does(api.MgTomb, 1, 0), does(api.MgTomb, 1, 1))
	want(t, "Stop", m.Stop(), api.OK)
	want(t, "the mark", p.State().Mark, 0)
	lay(t, p, at(10, put(2, "b", "new")))
	commit(t, p)
	wantSteps(t, begun(t, p), 10, does(api.MgTomb, 1, 0), does(api.MgDrop, 1, 1), does(api.MgDir, 0, 0), does(api.MgCommit, 0, 1))
	want(t, "the mark", p.State().Mark, 1)
}

// 11.5: a quota that leaves the reserve just alone, and one byte less.
func TestTheReserve(t *testing.T) {
	for n, step := range story() {
		if step.Kind != api.MgKeep {
			continue
		}
		for spare, errno := range map[int]api.Errno{0: api.OK, -1: api.ErrSpace, -4096: api.ErrSpace} {
			s := ready(t)
			m := begun(t, s.p)
			wantSteps(t, m, 10, story()[:n]...)
			size := 0
			for _, r := range s.recs {
				if r.Offset == step.Offset {
					size = sizes([]api.Record{r})
				}
			}
			s.d.SetQuota(s.d.Used() + size + api.Reserve + spare)
			what := fmt.Sprintf("step %d, spare %d", n, spare)
			if errno == api.OK {
				wantSteps(t, m, 10, step)
				continue
			}
			ops := s.d.Ops()
			s.wantGiven(t, what, m, errno)
			want(t, what+": only what was made is removed", s.d.Ops()-ops, 1+n/8*2) // a hint and two segments, or one
			s.wantAsBefore(t, what)
		}
	}
	// What is not kept needs no room, nor does what has to be sealed first.
	s := ready(t)
	m := begun(t, s.p)
	s.d.SetQuota(0)
	wantSteps(t, m, 10, story()[:2]...)
	s.wantGiven(t, "no room for a head", m, api.ErrSpace)
	s.wantAsBefore(t, "no room for a head")
	m = begun(t, s.p)
	s.d.SetQuota(1 << 20)
	wantSteps(t, m, 10, story()[:2]...)
	wantSteps(t, m, 10, does(api.MgMake, 6, 2), does(api.MgKeep, 6, 2), does(api.MgDrop, 2, 3), does(api.MgKeep, 6, 4))
	s.d.SetQuota(s.d.Used() + 17)
	wantSteps(t, m, 10, does(api.MgSeal, 6, 4))
	s.wantGiven(t, "no room for a hint", m, api.ErrSpace)
	s.wantAsBefore(t, "no room for a hint")
}

// All else takes what room there is: a head, a tail, a hint, a manifest that has just room, and one byte less.
func TestRoomForTheRest(t *testing.T) {
	l := mixed()
	man := 0
	for n, step := range story()[:moment] {
		if n == moment-1 {
			s := ready(t)
			wantSteps(t, begun(t, s.p), 10, story()[:moment]...)
			man, _ = s.d.Size("t3.man")
		}
		need := map[int]int{
			2: 21, 6: 17, 7: len(hintOf(t, 5, []api.Record{l[0][2], l[1][1]})),
			8: 21, 12: 17, 13: len(hintOf(t, 6, []api.Record{l[1][2], l[2][0], l[2][1]})), 15: man,
		}[n]
		if step.Kind == api.MgKeep {
			continue
		}
		for _, spare := range []int{0, -1} {
			s := ready(t)
			m := begun(t, s.p)
			wantSteps(t, m, 10, story()[:n]...)
			s.d.SetQuota(s.d.Used() + max(need+spare, 0))
			if spare == 0 || need == 0 {
				wantSteps(t, m, 10, step)
				continue
			}
			what := fmt.Sprintf("step %d, no room", n)
			s.wantGiven(t, what, m, api.ErrSpace)
			s.wantAsBefore(t, what)
		}
	}
	// Behind the moment nothing needs room.
	s := ready(t)
	m := begun(t, s.p)
	wantSteps(t, m, 10, story()[:moment]...)
	s.d.SetQuota(0)
	wantSteps(t, m, 10, story()[moment:]...)
}

// 11.6: the power goes at each operation. Ahead of the moment of the merge it is given up; behind it each step is tried, and counts as done.
func TestStepsWithoutPower(t *testing.T) {
	for stop := range 2 {
		for fuse := 0; ; fuse++ {
			s := ready(t)
			m := begun(t, s.p)
			s.d.Fuse(fuse)
			n := 0
			for ; !s.d.Dead() && !m.Over(); n++ {
				step := story()[n]
				got, e := m.Step(10)
				if !s.d.Dead() {
					want(t, fmt.Sprint("step ", n), fmt.Sprint(got, e), fmt.Sprint(step, api.OK))
					continue
				}
				if n < moment {
					step = does(api.MgGive, 0, 0)
				}
				want(t, fmt.Sprintf("power for %d, step %d", fuse, n), fmt.Sprint(got, e), fmt.Sprint(step, api.ErrDead))
			}
			if !s.d.Dead() {
				break
			}
			what := fmt.Sprint("power for ", fuse)
			state := s.p.State()
			switch {
			case n <= moment:
				want(t, what+": State", state, s.state)
			case stop == 1:
				var first api.Errno
				if n < len(story())-1 {
					first = api.ErrDead
				}
				want(t, what+": Stop", m.Stop(), first)
			default:
				for ; n < len(story())-1; n++ {
					wantStep(t, what, m, 10, story()[n], api.ErrDead)
				}
				wantSteps(t, m, 10, does(api.MgEnd, 0, 0))
			}
			wantOver(t, what, m, s.p)
			if n > moment {
				want(t, what+": the mark", state.Mark, 2)
				want(t, what+": segments", state.Segs, 3)
			}
		}
	}
}

// Stop of a merge whose disk has no power: ahead of its moment there is nothing that it needs.
func TestStopWithoutPower(t *testing.T) {
	for n := range story() {
		s := ready(t)
		m := begun(t, s.p)
		wantSteps(t, m, 10, story()[:n]...)
		s.d.Fuse(0)
		s.d.SyncDir()
		files := names(s.d.Image())
		errno := api.OK
		if n >= moment && n < len(story())-1 {
			errno = api.ErrDead
		}
		what := fmt.Sprint("behind ", n, " steps")
		want(t, what+": Stop", m.Stop(), errno)
		wantOver(t, what, m, s.p)
		wantList(t, what+": files", names(s.d.Image()), files)
	}
}

// The first error of what Stop does is told, and all else is done all the same.
func TestStopTellsTheFirstError(t *testing.T) {
	s := ready(t)
	m := begun(t, s.p)
	wantSteps(t, m, 10, story()[:moment]...)
	s.d.Remove("t3.1.seg")
	want(t, "Stop", m.Stop(), api.ErrNoFile)
	wantOver(t, "stopped", m, s.p)
	wantList(t, "files", names(s.d.Image()), strings.Fields("t3.4.seg t3.5.hint t3.5.seg t3.6.hint t3.6.seg t3.man"))
	// The same step by step.
	s = ready(t)
	m = begun(t, s.p)
	wantSteps(t, m, 10, story()[:moment]...)
	s.d.Remove("t3.2.seg")
	wantSteps(t, m, 10, does(api.MgRemove, 1, 0))
	wantStep(t, "a file that is not there", m, 10, does(api.MgRemove, 2, 0), api.ErrNoFile)
	wantSteps(t, m, 10, does(api.MgRemove, 3, 0), does(api.MgDir, 0, 0), does(api.MgEnd, 0, 0))
	wantList(t, "files", names(s.d.Image()), strings.Fields("t3.4.seg t3.5.hint t3.5.seg t3.6.hint t3.6.seg t3.man"))
}

// The topic is dropped between two steps: the merge ends, and no file is left.
func TestDropsWithinAMerge(t *testing.T) {
	for stop := range 2 {
		for n := range story() {
			s := ready(t)
			m := begun(t, s.p)
			wantSteps(t, m, 10, story()[:n]...)
			want(t, "Drop", s.p.Drop(), api.OK)
			what := fmt.Sprint("dropped behind ", n, " steps")
			if stop == 1 {
				m.Stop()
			} else if kind := story()[n].Kind; kind <= api.MgMake || kind == api.MgCommit {
				wantStep(t, what, m, 10, does(api.MgGive, 0, 0), api.ErrGone)
			}
			for range 20 {
				m.Step(10)
			}
			want(t, what+": Over", m.Over(), true)
			wantList(t, what+": files", names(s.d.Image()), nil)
			want(t, what+": Hold", s.p.Hold(), api.ErrGone)
		}
	}
}

// 11.6: what Install refuses.
func TestInstallRefused(t *testing.T) {
	// A new segment is damaged.
	s := ready(t)
	m := begun(t, s.p)
	wantSteps(t, m, 10, story()[:moment-1]...)
	s.d.Truncate("t3.6.seg", 60)
	s.wantGiven(t, "damaged", m, api.ErrTopic)
	s.wantAsBefore(t, "damaged")
	// A new segment is not there any more: what else was made is removed all the same.
	m = begun(t, s.p)
	for range moment - 1 {
		m.Step(10)
	}
	s.d.Remove("t3.7.hint")
	s.d.Remove("t3.7.seg")
	s.wantGiven(t, "removed", m, api.ErrTopic)
	s.wantAsBefore(t, "removed")
	// The manifest would name too many.
	var recs []api.Record
	for i := range int64(70) {
		recs = append(recs, sized(i, fmt.Sprint(i), 200))
	}
	for n, errno := range map[int]api.Errno{63: api.OK, 64: api.ErrSegs} {
		p := openedWith(t, stored(t, api.Manifest{}, shelf{1, recs[:n]}, shelf{2, nil}), 256)
		image, state := probe.Key(p.Disk().Image()), p.State()
		m := begun(t, p)
		for range 4*n + 1 {
			if s, e := m.Step(0); e != api.OK {
				t.Fatalf("%d segments: %v, %d", n, s, e)
			}
		}
		if errno == api.OK {
			wantSteps(t, m, 0, does(api.MgCommit, 63, 0))
			wantSteps(t, m, 0, removals(1)...)
			want(t, "segments", p.State().Segs, 64)
			continue
		}
		wantStep(t, "too many", m, 0, does(api.MgGive, 0, 0), errno)
		wantOver(t, "too many", m, p)
		want(t, "too many: the disk is as it was", probe.Key(p.Disk().Image()) == image, true)
		want(t, "too many: State", p.State(), state)
	}
}

// As many files as may be are there.
func TestFilesAtTheirEnd(t *testing.T) {
	d, _ := filled(t, []api.Record{put(0, "a", "1")}, nil)
	image := d.Image() // t3.1.hint, t3.1.seg, t3.2.seg, t3.man
	for i := range 1<<16 - len(image) - 3 {
		image = append(image, api.File{Name: fmt.Sprintf("x%05d", i)})
	}
	for free, kinds := range [][]int{{}, {api.MgMake, api.MgKeep, api.MgSeal}, {api.MgMake, api.MgKeep, api.MgSeal, api.MgHint, api.MgDir}} {
		d, _ := simfs.Load(image, 1<<20)
		p := opened(t, d)
		m := begun(t, p)
		for i := range 3 - free {
			d.Create(fmt.Sprint("y", i))
		}
		for _, kind := range kinds {
			s, e := m.Step(0)
			want(t, fmt.Sprintf("%d files free", free), fmt.Sprint(s.Kind, e), fmt.Sprint(kind, api.OK))
		}
		what := fmt.Sprintf("%d files free", free)
		wantStep(t, what, m, 0, does(api.MgGive, 0, 0), api.ErrFiles)
		wantOver(t, what, m, p)
		want(t, what+": no file is left", len(d.Image()), 1<<16-free)
		wantRecords(t, what, p, put(0, "a", "1"))
	}
}

// A file that the merge has not made is not removed by it.
func TestFilesOfOthersStay(t *testing.T) {
	s := ready(t)
	s.d.Create("t3.5.seg")
	s.image = probe.Key(s.d.Image())
	m := begun(t, s.p)
	wantSteps(t, m, 10, story()[:2]...)
	s.wantGiven(t, "the name is taken", m, api.ErrExists)
	s.wantAsBefore(t, "the name is taken")
}

// Somebody else has released the topic, and merged it: nothing is promised but that all ends.
func TestTwoMerges(t *testing.T) {
	for n := range story() {
		s := ready(t)
		m := begun(t, s.p)
		wantSteps(t, m, 10, story()[:n]...)
		s.p.Release()
		run(t, begun(t, s.p), 10)
		for range 40 {
			m.Step(10)
		}
		want(t, "Over", m.Over(), true)
		wantRecords(t, "merged", s.p, merged()...)
	}
}
