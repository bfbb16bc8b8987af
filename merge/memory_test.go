package merge_test

import (
	"slices"
	"testing"

	"chronicle/api"
	"chronicle/merge"
	"chronicle/probe"
)

// R3
func TestListsHandedInAreNotChanged(t *testing.T) {
	list := slices.Concat(mixed()...)
	for cut := range len(list) + 1 {
		for _, now := range []int64{-1, 0, 10, 99} {
			sealed, same := probe.Spare(list[:cut], gone(77, "x"))
			later, alike := probe.Spare(list[cut:], gone(78, "y"))
			kept, _, _ := merge.Compact(sealed, later, now, 10)
			probe.Scribble(append(kept, api.Record{}))
			probe.Scribble(kept)
			if !same() || !alike() {
				t.Errorf("cut at %d: the records are changed, or what is behind them", cut)
			}
		}
	}
	stats, same := probe.Spare([]api.SegStat{{Bytes: 100, LiveBytes: 60}, {Bytes: -1}}, api.SegStat{Bytes: 5})
	want(t, "Due", merge.Due(stats, 40), true)
	want(t, "Due", merge.Due(stats, 41), false)
	want(t, "the stats are as they were", same(), true)
}

// All of it stays: the answer is a list of its own.
func TestAnswersAreNewMemory(t *testing.T) {
	list := []api.Record{put(0, "a", "1"), put(1, "b", "2"), put(2, "c", "3")}
	first, _, _ := merge.Compact(list, nil, 0, 0)
	second, _, _ := merge.Compact(list, nil, 0, 0)
	probe.Scribble(first)
	wantList(t, "another answer", second, list)
	want(t, "what was handed in", list[0], put(0, "a", "1"))
	kept := slices.Clone(second)
	probe.Scribble(list)
	wantList(t, "an answer behind a change of what was handed in", second, kept)
}

// What a topic tells of its segments may be written over, while a merge goes on.
func TestMergesKeepListsOfTheirOwn(t *testing.T) {
	s := ready(t)
	segs, stats := s.p.Sealed(), s.p.Stats()
	m := begun(t, s.p)
	probe.Scribble(segs)
	probe.Scribble(stats)
	for _, step := range story() {
		wantSteps(t, m, 10, step)
		probe.Scribble(s.p.Sealed())
		probe.Scribble(s.p.Stats())
	}
	wantRecords(t, "merged", s.p, merged()...)
}

// No merge knows of another one, nor does a package keep anything.
func TestMergesStandForThemselves(t *testing.T) {
	one, two := ready(t), ready(t)
	m, n := begun(t, one.p), begun(t, two.p)
	for i, step := range story() {
		wantSteps(t, m, 10, step)
		wantSteps(t, n, 10, step)
		if i == 9 {
			want(t, "Stop", n.Stop(), api.OK)
			two.wantAsBefore(t, "the second one")
			two = ready(t)
			n = begun(t, two.p)
			wantSteps(t, n, 10, story()[:10]...)
		}
	}
	wantRecords(t, "the first one", one.p, merged()...)
	wantRecords(t, "the second one", two.p, merged()...)
}
