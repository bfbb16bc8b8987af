package group_test

import (
	"fmt"
	"testing"

	"chronicle/api"
	"chronicle/group"
	"chronicle/merge"
	"chronicle/probe"
)

// wantFenced fails if a Set of a group with a generation below n is taken.
func wantFenced(t *testing.T, what string, g *group.Groups, name string, n int64) {
	t.Helper()
	for gen := range n {
		wantSet(t, what, g, name, gen, 3, 99, api.ErrFenced)
	}
}

// 15.9: behind a Join, ahead of its Commit and behind it, over rolls, merges and Opens.
func TestFencing(t *testing.T) {
	for _, limit := range []int{256, 65536} {
		d, p := created(t, limit)
		g := begun(t, p)
		for n := int64(1); n <= 40; n++ {
			wantJoin(t, "a", g, "a", n, api.OK)
			wantFenced(t, "ahead of the commit", g, "a", n)
			wantSet(t, "the youngest", g, "a", n, 3, n, api.OK)
			wantCommit(t, "a", g)
			wantFenced(t, "behind the commit", g, "a", n)
			switch n % 4 {
			case 0:
				want(t, "Roll", p.Roll(), api.OK)
			case 1:
				mergeAll(t, p, n)
			case 2:
				g = begun(t, p)
			case 3:
				d, p = reopened(t, d.Crash(nil), limit)
				g = begun(t, p)
			}
			wantFenced(t, "afterwards", g, "a", n)
			wantAt(t, "afterwards", g, "a", 3, n)
			wantSet(t, "the youngest", g, "a", n, 3, n+1, api.OK)
		}
	}
}

// 15.9: also where the Join was committed by a roll, whatever a crash leaves.
func TestFencingBehindCrashes(t *testing.T) {
	lost, kept := 0, 0
	for fuse := range 40 {
		d, p := created(t, 256)
		g := begun(t, p)
		d.Fuse(fuse)
		firm := int64(0)
		for n := int64(1); n <= 18; n++ {
			_, e := g.Join(0, "a")
			if e != api.OK {
				break
			}
			wantFenced(t, "ahead of a crash", g, "a", n)
			if gen, there, _ := g.Generation("a"); there {
				firm = gen
			}
			if n%7 == 0 && g.Commit() == api.OK {
				firm = n
			}
		}
		for _, left := range probe.Leavings(d) {
			_, p := reopened(t, left, 256)
			g := begun(t, p)
			gen, _, _ := g.Generation("a")
			want(t, "no older one", gen >= firm, true)
			if gen > 0 {
				wantFenced(t, "behind a crash", g, "a", max(gen, firm))
			}
			if gen == firm {
				lost++
			} else {
				kept++
			}
		}
	}
	if lost < 100 || kept < 100 {
		t.Errorf("%d, %d", lost, kept)
	}
}

// 15.9: what positions a group has were set by those who joined last: one that comes back does not spoil them.
func TestOldReadersSpoilNothing(t *testing.T) {
	_, _, g := none(t)
	for n := int64(1); n <= 6; n++ {
		wantJoin(t, "young", g, "a", n, api.OK)
		for id := range 3 {
			wantSet(t, "old", g, "a", n-1, id, 1000*n, api.ErrFenced)
			wantSet(t, "young", g, "a", n, id, 10*n+int64(id), api.OK)
			wantSet(t, "old", g, "a", n-1, id, 1000*n+1, api.ErrFenced)
		}
		wantCommit(t, "young", g)
		for id := range 3 {
			wantAt(t, "young", g, "a", id, 10*n+int64(id))
		}
	}
}

// 15.11: rolls and merges, at any place between the calls, change nothing that is answered, neither by these groups nor by those that are read anew.
func TestRollsAndMergesChangeNothing(t *testing.T) {
	for way := range 8 {
		_, p, g := none(t)
		_, _, plain := none(t)
		for i, x := range probe.Noise(uint64(way), 300) {
			name, id, now := names()[x>>20%6], ids()[x>>24%5], int64(i/2)
			gen, _, _ := plain.Generation(name)
			gen -= int64(x >> 28 % 8 / 7)
			var got, wanted string
			switch x >> 32 % 10 {
			case 0, 1:
				got, wanted = fmt.Sprint(g.Join(now, name)), fmt.Sprint(plain.Join(now, name))
			case 2:
				got, wanted = fmt.Sprint(g.Forget(now, id)), fmt.Sprint(plain.Forget(now, id))
			default:
				got, wanted = fmt.Sprint(g.Set(now, name, gen, id, int64(x>>40%200))), fmt.Sprint(plain.Set(now, name, gen, id, int64(x>>40%200)))
			}
			want(t, fmt.Sprint("call ", i), got, wanted)
			want(t, "Commit", g.Commit(), api.OK)
			want(t, "Commit", plain.Commit(), api.OK)
			if int(x>>50%4) <= way%4 {
				want(t, "Roll", p.Roll(), api.OK)
			}
			if i%4 == way%4 {
				mergeAll(t, p, now)
			}
			want(t, fmt.Sprint("told behind call ", i), told(g), told(plain))
			if way >= 4 && i%9 == 0 {
				g = begun(t, p)
				want(t, "told anew", told(g), told(plain))
			}
		}
	}
}

// 15.11: between any two steps of a merge, with changes between them, too.
func TestStepsOfMergesChangeNothing(t *testing.T) {
	_, p, g := none(t)
	_, _, plain := none(t)
	both := func(do func(*group.Groups)) {
		do(g)
		do(plain)
		want(t, "told", told(g), told(plain))
	}
	for round := range int64(12) {
		both(func(g *group.Groups) {
			wantJoin(t, "round", g, "a", round+1, api.OK)
			for id := range 5 {
				wantSet(t, "round", g, "a", round+1, id, round, api.OK)
			}
			wantForget(t, "round", g, int(round%5), 1, api.OK)
			wantCommit(t, "round", g)
		})
		want(t, "Roll", p.Roll(), api.OK)
		m, e := merge.Start(p)
		want(t, "merge.Start", e, api.OK)
		for step := 0; !m.Over(); step++ {
			if step%5 == 2 {
				both(func(g *group.Groups) {
					wantSet(t, "between", g, "a", round, 10, int64(step), api.ErrFenced)
					wantSet(t, "between", g, "a", round+1, 10, int64(step), api.OK)
				})
			}
			_, e := m.Step(round * 3)
			want(t, "Step", e, api.OK)
			want(t, "told", told(g), told(plain))
		}
		both(func(g *group.Groups) { wantCommit(t, "round", g) })
	}
	want(t, "told anew", told(begun(t, p)), told(plain))
}

// 15.11: a tombstone that a merge has dropped for its age leaves the position forgotten.
func TestOldTombstones(t *testing.T) {
	d, p, g := over(t, generation("a", 1), position("a", 3, 7), position("a", 1, 8))
	wantForget(t, "young", g, 3, 1, api.OK)
	wantCommit(t, "young", g)
	want(t, "Roll", p.Roll(), api.OK)
	mergeAll(t, p, 4)
	wantRecords(t, "young", p, generation("a", 1), position("a", 1, 8), gone("p.a.3"))
	want(t, "Roll", p.Roll(), api.OK)
	mergeAll(t, p, 5)
	wantRecords(t, "old", p, generation("a", 1), position("a", 1, 8))
	before := told(g)
	wantAt(t, "old", g, "a", 3, -1)
	_, p = reopened(t, d.Crash(nil), 65536)
	want(t, "opened anew", told(begun(t, p)), before)
	want(t, "the mark", p.State().Mark, 4)
}

// 15.11: a position that was set again behind its tombstone stays, whatever becomes of that.
func TestSetBehindOldTombstones(t *testing.T) {
	_, p, g := over(t, generation("a", 1), position("a", 3, 7))
	wantForget(t, "set", g, 3, 1, api.OK)
	wantSet(t, "set", g, "a", 1, 3, 2, api.OK)
	wantCommit(t, "set", g)
	for now := range int64(12) {
		want(t, "Roll", p.Roll(), api.OK)
		mergeAll(t, p, now)
		wantAt(t, "merged", g, "a", 3, 2)
		wantAt(t, "read anew", begun(t, p), "a", 3, 2)
	}
	wantRecords(t, "merged", p, generation("a", 1), position("a", 3, 2))
}
