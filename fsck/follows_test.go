package fsck_test

import (
	"fmt"
	"slices"
	"testing"

	"chronicle/api"
	"chronicle/catalog"
	"chronicle/fsck"
	"chronicle/probe"
	"chronicle/record"
	"chronicle/simfs"
	"chronicle/topic"
)

// wantSound fails unless what has been opened has nothing on its disk that does not belong there, and Salvage tells what the topics do.
func (l *life) wantSound(what string, others []api.Finding) {
	l.t.Helper()
	wantList(l.t, what+": Check", checked(l.t, what, l.d), others)
	l.wantSavedAsTold(what)
}

// foreign is findings of files that no store has.
func foreign(list []api.Finding) []api.Finding {
	return slices.DeleteFunc(slices.Clone(list), func(f api.Finding) bool { return f.Kind != api.FkOther })
}

// isMild tells whether nothing is wrong but hints, orphans, strangers and others.
func isMild(list []api.Finding) bool {
	return !slices.ContainsFunc(list, func(f api.Finding) bool { return f.Kind < api.FkHint })
}

// 21.5: what Salvage tells ahead of an Open is what the topics tell behind it, and perhaps what an orphan holds.
func (l *life) wantNoOther(what string, image []api.File, saved []api.Saved, count map[string]int) {
	l.t.Helper()
	told := l.records()
	for _, s := range saved {
		recs, there := told[s.Id]
		if !there {
			count["a stranger was saved"]++
			continue
		}
		more := slices.DeleteFunc(slices.Clone(s.Records), func(r api.Record) bool { return slices.Contains(recs, r) })
		want(l.t, fmt.Sprint(what, ": all of ", s.Id, " are saved"), len(s.Records)-len(more), len(recs))
		orphans := l.orphaned(image, s.Id)
		for _, r := range more {
			want(l.t, fmt.Sprint(what, ": another record of ", brief(r)), slices.ContainsFunc(recs, func(o api.Record) bool { return o.Offset == r.Offset }), false)
			want(l.t, fmt.Sprint(what, ": an orphan has ", brief(r)), slices.Contains(orphans, r), true)
			count["an orphan's record was saved"]++
		}
		count["a topic was saved"]++
	}
}

// orphaned is the records of a topic's files that are no longer there.
func (l *life) orphaned(image []api.File, id int) []api.Record {
	var list []api.Record
	now := filesOf(l.d.Image())
	for _, f := range image {
		n := slowParse(f.Name)
		if _, there := now[f.Name]; n.Kind == api.NSegment && n.Id == id && !there {
			for _, r := range record.Salvage(f.Data) {
				list = append(list, r.Rec)
			}
		}
	}
	return list
}

// 21.4, 21.5, P10: lives over many crashes, some of them in an Open, some on a disk that is all but full.
func TestNothingIsWrongBehindAnOpen(t *testing.T) {
	count := map[string]int{}
	for seed := range uint64(150) {
		l := newLife(t, seed)
		for round := range 12 {
			what := fmt.Sprintf("seed %d, round %d", seed, round)
			l.d.Fuse(l.roll(120))
			for i := 0; i < 60 && !l.d.Dead(); i++ {
				l.act()
			}
			l.reopen(what, count)
			if t.Failed() {
				t.FailNow()
			}
		}
	}
	for what, least := range map[string]int{
		"opened": 1500, "dead in Open": 200, "mild": 500, "a topic was saved": 1000, "an orphan's record was saved": 100, "a stranger was saved": 3,
		"a full disk": 100, "a last one stays sealed": 5, "kind 3": 50, "kind 8": 100, "kind 9": 5,
	} {
		if count[what] < least {
			t.Errorf("%s: %d times", what, count[what])
		}
	}
	t.Log(count)
}

// reopen opens what a crash leaves, which may take several times, and looks at it.
func (l *life) reopen(what string, count map[string]int) {
	l.t.Helper()
	image := l.left()
	if l.roll(3) == 0 {
		image = filesOf(image).and(others()).image()
	}
	quota := wide
	if l.roll(3) == 0 { // full, or all but full
		quota = filesOf(image).size() + l.roll(2)*l.roll(6000)
		count["a full disk"]++
	}
	for l.roll(3) == 0 {
		if l.open(image, quota, l.roll(10)) != api.ErrDead {
			break
		}
		image = l.left()
		count["dead in Open"]++
	}
	before := loaded(l.t, image)
	findings := checked(l.t, what, before)
	saved := salvaged(l.t, what, before)
	for _, f := range findings {
		count[fmt.Sprint("kind ", f.Kind)]++
	}
	want(l.t, what+": Open", l.open(image, quota, -1), api.OK)
	l.wantSound(what, foreign(findings))
	if isMild(findings) {
		l.wantNoOther(what, image, saved, count)
		count["mild"]++
	}
	if l.hasSealedLast() {
		count["a last one stays sealed"]++
	}
	count["opened"]++
	l.d.SetQuota(wide)
}

// hasSealedLast tells whether there is a topic whose last segment is sealed: a roll was broken off, and could not be done to its end.
func (l *life) hasSealedLast() bool {
	f := filesOf(l.d.Image())
	return slices.ContainsFunc(l.topics(), func(p *topic.Topic) bool {
		m, _ := slowManifest(f, p.Id())
		info, _, _, _ := slowLook(f, p.Id(), m.Segs[len(m.Segs)-1])
		return info.Sealed
	})
}

// tale is a short life: a topic that is written to, rolled and merged, one that comes and goes, and groups.
func tale(l *life) {
	l.c.Create("a", 0, 0)
	l.c.Create("b", 0, 0)
	a, e := l.c.Topic("a")
	b, _ := l.c.Topic("b")
	if e != api.OK {
		return
	}
	for i := range 7 {
		a.Append(int64(i), api.Write{Key: fmt.Sprint("k", i%2), Value: probe.Text(uint64(i), 70), Pid: 1, Seq: int64(i + 1)})
		b.Append(0, api.Write{Key: "k", Tombstone: true})
		if i%2 == 0 {
			a.Commit()
		}
	}
	b.Roll()
	l.g.Join(1, "g")
	l.g.Commit()
	for range 14 {
		l.merge(a)
	}
	l.own.Roll()
	l.c.Drop("b")
	l.c.Create("c", 0, 0)
}

// 21.4: the power goes at each operation of a tale, and what it may leave is opened.
func TestNothingIsWrongBehindAnyCrash(t *testing.T) {
	whole := newLife(t, 5)
	ops := -whole.d.Ops()
	tale(whole)
	ops += whole.d.Ops()
	images := 0
	for fuse := range ops + 1 {
		l := newLife(t, 5)
		l.d.Fuse(fuse)
		tale(l)
		want(t, "the power goes", l.d.Dead(), fuse < ops)
		for i, image := range probe.Leavings(l.d) {
			if i%3 != fuse%3 {
				continue
			}
			what := fmt.Sprintf("power for %d, image %d", fuse, i)
			again := *l
			want(t, what+": Open", again.open(image, wide, -1), api.OK)
			list, e := fsck.Check(again.d)
			want(t, what+": Check", fmt.Sprint(list, e), fmt.Sprint([]api.Finding(nil), api.OK))
			again.wantSavedAsTold(what)
			images++
		}
		if t.Failed() {
			t.FailNow()
		}
	}
	want(t, "many images", images > 1000, true)
}

// 21.5, of hints that are wrong, and of orphans and strangers that are there by hand.
func TestSalvageOfMildlyDamagedStores(t *testing.T) {
	f := whole().turned("t3.5.hint", 12).with("t3.2.hint", "").with("t3.7.hint", first().hint()).with("t3.man.tmp", f3()).with("t3.99.seg", shut(99, first().recs...).bytes(3)).
		with("t0.5.seg", open(5).bytes(0)).with("t9.1.seg", first().bytes(3)).and(others())
	d := holding(t, f)
	list := checked(t, "mild", d)
	want(t, "mild", isMild(list), true)
	saved := salvaged(t, "mild", d)
	c, e := catalog.Open(d, usual(), 0)
	want(t, "Open", e, api.OK)
	own, e := topic.Open(d, 0, 65536, 0, 0)
	want(t, "Open", e, api.OK)
	wantSaved(t, "mild", saved, append(savedOfWhole(), api.Saved{Id: 9, Records: first().recs}))
	for _, s := range savedOfWhole() {
		p := own
		if s.Id > 0 {
			p, _ = c.ById(s.Id)
		}
		recs, _ := p.Records()
		wantRecords(t, fmt.Sprint("the topic ", s.Id), recs, s.Records)
	}
}

func f3() string { return three()["t3.man"] }

// 21.7: each byte, in each of its bits, and in all of them.
func TestEachByteIsFound(t *testing.T) {
	l, _ := grown(t, 77)
	grownUp := l.settled()
	tried := map[string]int{}
	for _, f := range []files{whole(), grownUp} {
		want(t, "whole", len(checked(t, "whole", holding(t, f))), 0)
		for _, name := range f.names() {
			kinds := kindsOf(f, name)
			if kinds == nil {
				continue
			}
			for n := range len(f[name]) {
				for _, x := range []byte{1, 2, 4, 8, 16, 32, 64, 128, 255, 0x5a} {
					b := []byte(f[name])
					b[n] ^= x
					list, e := fsck.Check(holding(t, f.with(name, string(b))))
					isIt := func(g api.Finding) bool { return g.File == name && slices.Contains(kinds, g.Kind) }
					if e != api.OK || !slices.ContainsFunc(list, isIt) {
						t.Errorf("%s changed at %d by %d: %v, %d", name, n, x, list, e)
					}
				}
			}
			tried[fmt.Sprint(kinds)]++
		}
	}
	if tried["[3 2 4]"] < 5 || tried["[0]"] < 2 || tried["[1]"] < 6 {
		t.Errorf("%v", tried)
	}
}

// kindsOf is what may be found of a file of which a byte is changed; nothing, if nothing has to be.
func kindsOf(f files, name string) []int {
	n := slowParse(name)
	switch {
	case name == "catalog":
		return []int{api.FkCatalogue}
	case n.Kind == api.NManifest && !n.Tmp:
		return []int{api.FkManifest}
	case n.Kind == api.NSegment && !n.Tmp:
		m, _ := slowManifest(f, n.Id)
		if i := slices.Index(m.Segs, n.Seg); i >= 0 && i < len(m.Segs)-1 {
			return []int{api.FkTorn, api.FkSegment, api.FkOpen}
		}
	}
	return nil
}

// P10: in a used store each record but the one that is hit is saved, and no other content under its offset.
func TestEveryWholeRecordIsSaved(t *testing.T) {
	hits := 0
	for seed := range uint64(6) {
		l, _ := grown(t, seed+500)
		f := l.settled()
		all := map[int][]api.Record{}
		for _, s := range salvaged(t, "whole", holding(t, f)) {
			all[s.Id] = s.Records
		}
		for _, name := range f.names() {
			n := slowParse(name)
			if n.Kind != api.NSegment {
				continue
			}
			_, placed, _, _ := slowLook(f, n.Id, n.Seg)
			for at := 0; at < len(f[name]); at += 1 + l.roll(5) {
				saved, e := fsck.Salvage(holding(t, f.turned(name, at)))
				want(t, "Salvage", e, api.OK)
				i := slices.IndexFunc(saved, func(s api.Saved) bool { return s.Id == n.Id })
				for _, r := range all[n.Id] {
					isHit := slices.ContainsFunc(placed, func(p api.Placed) bool { return p.Rec == r && p.Pos <= at && at < p.Pos+p.Len })
					if isHit {
						hits++
					} else if !slices.Contains(saved[i].Records, r) {
						t.Errorf("%s changed at %d: %s is not saved", name, at, brief(r))
					}
				}
			}
		}
	}
	want(t, "many were hit", hits > 300, true)
}

// 21.6, of a life: what is rebuilt of an opened store is that store.
func TestALifeGoesOnBehindARebuild(t *testing.T) {
	for seed := range uint64(40) {
		l := newLife(t, seed+900)
		for range 150 {
			l.act()
		}
		l.settled()
		recs, names := l.records(), l.names()
		to, _ := simfs.New(wide)
		list, e := fsck.Rebuild(l.d, to, usual())
		want(t, "Rebuild", e, api.OK)
		wantList(t, "findings", foreign(list), nil)
		want(t, "Open", l.open(to.Image(), wide, -1), api.OK)
		l.wantSound("rebuilt", nil)
		wantSame(t, names, l.names())
		for id, list := range l.records() {
			// A merge may have been under way: what it had not yet removed comes back.
			for _, r := range recs[id] {
				want(t, fmt.Sprint("the topic ", id, " has ", brief(r)), slices.Contains(list, r), true)
			}
			wantRecords(t, "the fold", record.Fold(list), record.Fold(recs[id]))
		}
		for range 60 {
			l.act()
		}
		l.reopen("behind a rebuild", map[string]int{})
	}
}

func wantSame(t *testing.T, a, b map[int]string) {
	t.Helper()
	want(t, "names", fmt.Sprint(a), fmt.Sprint(b))
}
