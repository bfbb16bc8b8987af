package topic_test

import (
	"slices"
	"testing"

	"chronicle/api"
	"chronicle/probe"
)

// 10.13

func TestListsHandedInAreNotChanged(t *testing.T) {
	roomy := func(list ...int) ([]int, func() bool) {
		whole := append(slices.Clone(list), 4, 5, 6)
		kept := slices.Clone(whole)
		return whole[:len(list)], func() bool { return slices.Equal(whole, kept) }
	}
	d, p := readyToMerge(t)
	n, m, o := numbered(t, p), numbered(t, p), numbered(t, p)
	build(t, d, shelf{n, 0, ones(), true})
	build(t, d, shelf{m, 2, twos(), true})
	build(t, d, shelf{o, 0, nil, true})
	for _, lists := range [][2][]int{{{1, 2}, {n, m}}, {{n}, {o}}} {
		olds, same := roomy(lists[0]...)
		news, alike := roomy(lists[1]...)
		for _, mark := range []int64{-1, 5} {
			p.Install(olds, news, mark)
			if !same() || !alike() {
				t.Errorf("the lists are changed, or what is behind them: %v, %v", olds, news)
			}
		}
	}
	wantList(t, "Sealed", p.Sealed(), []int{o, m})
}

func TestListsHandedInAreNotKept(t *testing.T) {
	d, p := readyToMerge(t)
	n := numbered(t, p)
	build(t, d, shelf{n, 0, twos(), true})
	olds, news := []int{1, 2}, append(make([]int, 0, 9), n)
	want(t, "Install", p.Install(olds, news, 0), api.OK)
	probe.Scribble(olds)
	probe.Scribble(news)
	wantList(t, "Sealed", p.Sealed(), []int{n})
	wantRecords(t, "installed", p, append(twos(), late()...)...)
	roll(t, p)
	wantList(t, "Sealed", p.Sealed(), []int{n, 3})
	wantList(t, "opened anew", opened(t, d).Sealed(), []int{n, 3})
}

// What is answered may be written into, and appended to.
func TestAnswersAreNewMemory(t *testing.T) {
	d, p := readyToMerge(t)
	all := slices.Concat(ones(), twos(), late())
	stats := p.Stats()
	for range 2 {
		recs, _ := p.Records()
		probe.Scribble(append(recs, api.Record{}))
		probe.Scribble(recs)
		wantRecords(t, "again", p, all...)
		recs, _, _ = p.From(1, 3, 999)
		probe.Scribble(append(recs, api.Record{}))
		probe.Scribble(recs)
		wantFrom(t, "again", p, 1, 3, 999, all[1:4], 4, api.OK)
		keys, _ := p.Keys("", "", 9)
		probe.Scribble(append(keys, "x"))
		probe.Scribble(keys)
		wantKeys(t, "again", p, "", "", 9, false, "b", "c")
		segs := p.Sealed()
		probe.Scribble(append(segs, 77))
		probe.Scribble(segs)
		wantList(t, "Sealed again", p.Sealed(), []int{1, 2})
		list := p.Stats()
		probe.Scribble(append(list, api.SegStat{}))
		probe.Scribble(list)
		wantList(t, "Stats again", p.Stats(), stats)
	}
	roll(t, p)
	wantList(t, "Sealed", p.Sealed(), []int{1, 2, 3})
	wantRecords(t, "opened anew", opened(t, d), append(all, wait()...)...)
}

// What was answered stays as it is, whatever is done to the topic.
func TestAnswersOutliveChanges(t *testing.T) {
	d, p := readyToMerge(t)
	recs, _ := p.Records()
	segs, stats := p.Sealed(), p.Stats()
	keptRecs, keptSegs, keptStats := slices.Clone(recs), slices.Clone(segs), slices.Clone(stats)
	n := numbered(t, p)
	build(t, d, shelf{n, 0, twos(), true})
	want(t, "Install", p.Install([]int{1, 2}, []int{n}, 0), api.OK)
	roll(t, p)
	p.Drop()
	wantList(t, "Records", recs, keptRecs)
	wantList(t, "Sealed", segs, keptSegs)
	wantList(t, "Stats", stats, keptStats)
}

// An Append that does not roll is one append to the last segment, a Commit one sync.
func TestOperationsOfWriting(t *testing.T) {
	d, p := made(t)
	list := []api.Record{put(0, "a", "1"), of(9, 1, gone(1, "a")), put(2, "b", "")}
	for i, r := range list {
		ops := d.Ops()
		lay(t, p, r)
		want(t, "operations of an Append", d.Ops(), ops+1)
		// It is one append: a crash leaves the ones ahead of it, and some first bytes of it.
		for n := range i + 1 {
			left := filesOf(d.Crash([]int{0, n + 1}))
			want(t, "so many appends", left["t3.1.seg"], shelf{1, 0, list[:n+1], false}.bytes(3))
		}
	}
	ops := d.Ops()
	wantAppend(t, "again", p, 7, api.Write{Key: "x", Pid: 9, Seq: 1}, 1, true, api.OK)
	want(t, "operations of what is there already", d.Ops(), ops)
	commit(t, p)
	want(t, "operations of a Commit", d.Ops(), ops+1)
	want(t, "what is durable", probe.Key(d.Crash(nil)) == probe.Key(d.Image()), true)
	commit(t, p)
	want(t, "operations of a Commit of nothing", d.Ops(), ops+1)
}
