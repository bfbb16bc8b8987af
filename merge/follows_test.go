package merge_test

import (
	"fmt"
	"slices"
	"testing"

	"chronicle/api"
	"chronicle/hint"
	"chronicle/manifest"
	"chronicle/merge"
	"chronicle/probe"
	"chronicle/record"
	"chronicle/segment"
	"chronicle/simfs"
	"chronicle/topic"
)

// grown is a topic to which some records have been written, and its clock.
func grown(t *testing.T, seed uint64, limit, n int, byHand bool) (*simfs.Disk, *topic.Topic, int64) {
	t.Helper()
	d, _ := simfs.New(1 << 24)
	p, e := topic.Create(d, 3, limit, int64(seed%4*7), 0)
	want(t, "Create", e, api.OK)
	grow(t, p, seed, n, byHand)
	return d, p, p.Tick(-1)
}

// grow writes some records.
func grow(t *testing.T, p *topic.Topic, seed uint64, n int, byHand bool) {
	t.Helper()
	for _, x := range probe.Noise(seed+1, n) {
		w := api.Write{Key: fmt.Sprint("key", x>>8%12), Value: probe.Text(x, int(x>>16%90))}
		switch x >> 24 % 6 {
		case 0, 1:
			w.Value, w.Tombstone = "", true
		case 2:
			w.Value = probe.Text(x, int(x>>32%uint64(min(p.Limit(), 1000))))
		}
		if _, _, e := p.Append(p.Tick(-1)+int64(x>>40%2), w); e != api.OK {
			t.Fatalf("Append: %d", e)
		}
		if x>>48%5 == 0 {
			commit(t, p)
		}
		if byHand && x>>52%9 == 0 {
			roll(t, p)
		}
	}
	commit(t, p)
}

// split is the records of the sealed segments, and those behind.
func split(t *testing.T, d *simfs.Disk, p *topic.Topic) (sealed, later []api.Record) {
	t.Helper()
	for _, seg := range p.Sealed() {
		sealed = append(sealed, looked(t, d, seg, true)...)
	}
	all, e := p.Records()
	want(t, "Records", e, api.OK)
	return sealed, all[len(sealed):]
}

// wantTidy fails unless each file of a topic is one that its manifest names, or a hint of a sealed one, and all sealed ones of which a merge has made it have theirs.
func wantTidy(t *testing.T, what string, d *simfs.Disk, p *topic.Topic) {
	t.Helper()
	m, e := manifest.Load(d, 3)
	want(t, what+": manifest.Load", e, api.OK)
	wanted := []string{"t3.man"}
	for i, seg := range m.Segs {
		wanted = append(wanted, segment.Name(3, seg))
		if i == len(m.Segs)-1 {
			break
		}
		wanted = append(wanted, hint.Name(3, seg))
		h, there, e := hint.Recover(d, 3, seg)
		want(t, what+": Recover", fmt.Sprint(there, e, h.Seg), fmt.Sprint(true, api.OK, seg))
	}
	wantList(t, what+": files", names(d.Image()), slices.Sorted(slices.Values(wanted)))
	want(t, what+": all is durable", probe.Key(d.Crash(nil)) == probe.Key(d.Image()), true)
	wantList(t, what+": Sealed", p.Sealed(), m.Segs[:len(m.Segs)-1])
}

// wantCompacted fails unless sealed segments hold at most one record of a key, and no tombstone that is old at a time.
func wantCompacted(t *testing.T, what string, p *topic.Topic, sealed []api.Record, now int64) {
	t.Helper()
	known := map[string]int{}
	for _, r := range sealed {
		known[r.Key]++
		if known[r.Key] > 1 || r.Kind == api.KTombstone && now >= r.Time+p.Horizon() {
			t.Errorf("%s: %s", what, brief(r))
		}
	}
}

// 11.10, 11.12, 11.14; P5
func TestWhatItComesTo(t *testing.T) {
	drops, marks, merges := 0, 0, 0
	for seed := range uint64(200) {
		d, p, clock := grown(t, seed, 256+int(seed%7*50), 60, seed%2 == 0)
		for round := range uint64(3) {
			now := clock + int64(seed%3*5)
			sealed, later := split(t, d, p)
			if len(p.Sealed()) == 0 {
				break
			}
			old := p.State().Mark
			segs := len(p.Sealed())
			kept, mark, e := merge.Compact(sealed, later, now, p.Horizon())
			want(t, "Compact", e, api.OK)
			what := fmt.Sprintf("seed %d, round %d", seed, round)
			steps := run(t, begun(t, p), now)
			wantRecords(t, what, p, slices.Concat(kept, later)...)
			want(t, what+": the mark", p.State().Mark, max(old, mark))
			wantTidy(t, what, d, p)
			if bound := merge.Steps(segs, len(sealed)); len(steps) > bound {
				t.Errorf("%s: %d steps, the bound is %d", what, len(steps), bound)
			}
			sealed, _ = split(t, d, p)
			wantList(t, what+": the sealed ones", sealed, kept)
			wantCompacted(t, what, p, sealed, now)
			wantRest(t, what, d, p, now)
			q := openedLike(t, d, p)
			wantRecords(t, what+": opened anew", q, slices.Concat(kept, later)...)
			want(t, what+": opened anew: the mark", q.State().Mark, max(old, mark))
			merges++
			drops += len(steps)
			if mark > 0 {
				marks++
			}
			grow(t, p, seed+1000*round, 30, seed%2 == 0)
			clock = p.Tick(-1)
		}
		if t.Failed() {
			t.FailNow()
		}
	}
	if merges < 300 || marks < 50 || drops < 1000 {
		t.Errorf("%d merges, %d marks, %d steps", merges, marks, drops)
	}
}

func openedLike(t *testing.T, d *simfs.Disk, p *topic.Topic) *topic.Topic {
	t.Helper()
	q, e := topic.Open(loaded(d.Crash(nil)), 3, p.Limit(), p.Horizon(), 0)
	want(t, "Open", e, api.OK)
	return q
}

// wantRest fails unless nothing is due behind a merge, and another one drops nothing.
func wantRest(t *testing.T, what string, d *simfs.Disk, p *topic.Topic, now int64) {
	t.Helper()
	for _, share := range []int{1, 2, 50, 100, 101} {
		want(t, what+": Due", merge.Due(p.Stats(), share), false)
	}
	for _, s := range p.Stats() {
		want(t, what+": all that it holds is needed", fmt.Sprint(s.Live, s.LiveBytes), fmt.Sprint(s.Count, s.Bytes))
	}
	if len(p.Sealed()) == 0 {
		return
	}
	before, _ := p.Records()
	for _, s := range run(t, begun(t, p), now) {
		if s.Kind == api.MgDrop || s.Kind == api.MgTomb {
			t.Errorf("%s: another merge: %v", what, s)
		}
	}
	wantRecords(t, what+": another merge", p, before...)
	wantTidy(t, what+": another merge", d, p)
}

// 11.14: a merge that is due is not due behind it, at any share.
func TestDueAndRest(t *testing.T) {
	_, p := filled(t, []api.Record{put(0, "a", "1"), put(1, "a", "2")}, []api.Record{gone(2, "b")}, nil)
	for share := range 101 {
		stats := p.Stats()
		dead := record.Size(put(0, "a", "1")) * 100
		want(t, fmt.Sprint("Due at ", share), merge.Due(stats, share), dead >= share*(stats[0].Bytes+stats[1].Bytes))
	}
	run(t, begun(t, p), 9)
	for share := 1; share <= 100; share++ {
		want(t, fmt.Sprint("behind it: Due at ", share), merge.Due(p.Stats(), share), false)
	}
	p.Tick(10) // time has gone by: the tombstone is old
	want(t, "Due later", merge.Due(p.Stats(), 1), true)
	run(t, begun(t, p), 10)
	want(t, "Due at last", merge.Due(p.Stats(), 1), false)
	run(t, begun(t, p), 10)
	lay(t, p, at(10, put(3, "a", "3")))
	commit(t, p)
	want(t, "Due of what is superseded", merge.Due(p.Stats(), 100), true)
	run(t, begun(t, p), 10)
	want(t, "Due of no segments", merge.Due(p.Stats(), 0), false)
}

// 11.12: there are merges that need just so many steps.
func TestTheBoundIsReached(t *testing.T) {
	for segs := 1; segs < 6; segs++ {
		_, p := made(t)
		for i := range segs {
			lay(t, p, sized(int64(i), fmt.Sprint(i), 200))
			roll(t, p)
		}
		want(t, fmt.Sprint(segs, " segments"), len(run(t, begun(t, p), 0)), merge.Steps(segs, segs))
	}
}

// 11.12: a record that is superseded behind the seal for which it was the reason, again and again.
func TestTheBoundWithWritesBetween(t *testing.T) {
	_, p := made(t)
	off := int64(0)
	for i := range 12 {
		lay(t, p, sized(off, fmt.Sprint("s", i), 30), sized(off+1, fmt.Sprint("l", i), 200))
		off += 2
	}
	roll(t, p)
	segs := len(p.Sealed())
	m := begun(t, p)
	steps := 0
	for ; !m.Over(); steps++ {
		s, e := m.Step(0)
		want(t, "Step", e, api.OK)
		if s.Kind == api.MgSeal && s.Offset < 23 {
			lay(t, p, put(off, fmt.Sprint("l", s.Offset/2), "x"))
			commit(t, p)
			off++
		}
	}
	if bound := merge.Steps(segs, 24); steps > bound || p.State().Dead > 0 {
		t.Errorf("%d steps of %d, %d dead", steps, bound, p.State().Dead)
	}
}

// 11.13
func TestHowMuch(t *testing.T) {
	most := 0
	for seed := range uint64(120) {
		limit := []int{256, 257, 300, 400, 700, 2000, 65536}[seed%7]
		d, p, _ := grown(t, seed, limit, 40, false)
		for round := range uint64(5) {
			grow(t, p, seed*10+round, 40, false)
			if len(p.Sealed()) == 0 {
				continue
			}
			run(t, begun(t, p), p.Tick(-1))
			sealed, _ := split(t, d, p)
			k, segs := sizes(sealed), p.Sealed()
			what := fmt.Sprintf("seed %d, round %d, %d bytes", seed, round, k)
			if len(segs) > 2*k/(limit-38)+2 {
				t.Errorf("%s: %d segments of %d", what, len(segs), limit)
			}
			most = max(most, len(segs))
			total := 0
			for _, seg := range segs {
				a, _ := d.Size(segment.Name(3, seg))
				b, _ := d.Size(hint.Name(3, seg))
				total += a + b
			}
			if total > 2*k+60*len(segs) {
				t.Errorf("%s: their files have %d", what, total)
			}
			if man, _ := d.Size("t3.man"); man > 2000 {
				t.Errorf("%s: the manifest has %d", what, man)
			}
			man, _ := manifest.Load(d, 3)
			last := looked(t, d, man.Segs[len(man.Segs)-1], false)
			if size := 21 + sizes(last); size > limit && len(last) > 1 {
				t.Errorf("%s: the last one has %d", what, size)
			}
		}
	}
	if most < 5 {
		t.Errorf("%d segments at most", most)
	}
}

// What Compact tells twice: of what it kept it keeps all.
func TestCompactOfWhatWasKept(t *testing.T) {
	for seed := range uint64(50) {
		d, p, now := grown(t, seed, 300, 50, true)
		sealed, later := split(t, d, p)
		kept, _, e := merge.Compact(sealed, later, now, p.Horizon())
		want(t, "Compact", e, api.OK)
		wantCompact(t, "once more", kept, later, now, p.Horizon(), kept, 0, api.OK)
	}
}
