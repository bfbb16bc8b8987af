package broker_test

import (
	"testing"

	"chronicle/api"
	"chronicle/broker"
	"chronicle/simfs"
)

// mergeUntil makes steps of merges until one has this kind, and tells all kinds.
func (k *desk) mergeUntil(topic, kind int) []int {
	k.t.Helper()
	var kinds []int
	for range 200 {
		d, e := k.b.Step(k.now, api.ClMerge)
		if e != api.OK || d.What != api.DidMerge || d.Topic != topic {
			k.t.Fatalf("behind %v: %+v, %d", kinds, d, e)
		}
		kinds = append(kinds, d.Kind)
		if d.Kind == kind {
			return kinds
		}
	}
	k.t.Fatalf("no such step: %v", kinds)
	return nil
}

// 20.14: a merge from its beginning to its end.
func TestMerge(t *testing.T) {
	k := served(t, 1, "t")
	k.fill(1, 1, "t", "k", 5) // two sealed segments of two records, all of them superseded
	k.wantState("due", 1, 1, 0, 0)
	k.step(api.ClMerge, merged(1, api.MgDrop))
	k.wantState("begun", 1, 1, 0, 1)
	for _, kind := range []int{api.MgDrop, api.MgDrop, api.MgDrop, api.MgDir, api.MgCommit, api.MgRemove, api.MgRemove, api.MgDir} {
		k.step(api.ClMerge, merged(1, kind))
		k.wantState("under way", 1, 1, 0, 1)
	}
	k.step(api.ClMerge, merged(1, api.MgEnd))
	k.wantState("over", 1, 1, 0, 0)
	k.rest()
	k.wantRecords("merged", "t", value(4, "k", bulk(4)))
	// The next one begins anew.
	k.fill(1, 1, "t", "k", 2)
	k.mergeUntil(1, api.MgEnd)
	k.rest()
}

// 20.10, 20.14: a merge is due at the config's share, and goes on though it is not due any more.
func TestMergeIsDue(t *testing.T) {
	for _, c := range []struct {
		share int
		due   bool
	}{{1, true}, {49, true}, {50, true}, {51, false}, {100, false}} {
		d, _ := simfs.New(wide)
		cfg := usual()
		cfg.Share = c.share
		want(t, "Format", broker.Format(d, cfg, 0), api.OK)
		k := over(t, d, cfg)
		k.connect()
		k.ask(1, create("t"), did(1, 1, api.OpCreate, 0))
		k.write(1, 1, "t", "a", bulk(1))
		k.write(1, 1, "t", "b", bulk(2))
		k.write(1, 1, "t", "c", bulk(3))
		k.settle(1)
		k.rest() // all of it lives
		k.write(1, 1, "t", "a", "")
		k.settle(1)
		// One of two records of the sealed segment is superseded now.
		if !c.due {
			k.rest()
			continue
		}
		wantList(t, "kinds", k.mergeUntil(1, api.MgEnd), []int{api.MgDrop, api.MgMake, api.MgKeep, api.MgSeal, api.MgHint, api.MgDir, api.MgCommit, api.MgRemove, api.MgDir, api.MgEnd})
		k.rest()
		k.wantRecords("merged", "t", value(1, "b", bulk(2)), value(2, "c", bulk(3)), value(3, "a", ""))
	}
}

// 20.14: tombstones count as dead when they are old at the topic's own clock; the merge's steps bring the broker's to it.
func TestMergeTakesTheBrokersTime(t *testing.T) {
	k := served(t, 1, "t")
	k.write(1, 1, "t", "a", bulk(1))
	k.ask(1, remove("t", "a"), did(1, 1, api.OpDelete, -1))
	k.fill(1, 1, "t", "k", 2)
	k.now = 99
	k.mergeUntil(1, api.MgEnd)
	k.answered(1, 1, stat("t"), api.Response{Offset: 4})
	k.now = 100
	k.rest() // nobody has told the topic what time it is
	k.fill(1, 1, "t", "k", 2)
	k.now = 0 // the broker's clock does not go back
	kinds := k.mergeUntil(1, api.MgEnd)
	want(t, "an old tombstone", kinds[0], api.MgTomb)
	k.answered(1, 1, stat("t"), api.Response{Offset: 6, Number: 2})
}

// 20.14: topics are merged in turn, numbers rising, and from the first one again.
func TestMergeTurns(t *testing.T) {
	k := served(t, 1, "b", "c", "a")
	k.fill(1, 1, "b", "k", 5)
	k.fill(1, 3, "a", "k", 5)
	k.step(api.ClMerge, merged(1, api.MgDrop))
	k.step(api.ClMerge, merged(3, api.MgDrop))
	k.step(api.ClMerge, merged(1, api.MgDrop))
	k.wantState("two merges", 1, 3, 0, 2)
	k.fill(1, 2, "c", "k", 5)
	for k.b.State().Merges < 3 {
		k.b.Step(0, api.ClMerge)
	}
	last := 2
	turns := map[int]int{}
	for range 40 {
		d, e := k.b.Step(0, api.ClMerge)
		want(t, "Step", e, api.OK)
		if d.What == api.DidNothing {
			break
		}
		turns[d.Topic]++
		if d.Topic != last%3+1 && k.b.State().Merges == 3 {
			t.Errorf("the topic %d behind %d", d.Topic, last)
		}
		last = d.Topic
	}
	k.wantState("all are over", 1, 3, 0, 0)
	k.rest()
	// Behind the last one it is the first one's turn, though another is nearer.
	k.fill(1, 1, "b", "k", 5)
	k.fill(1, 2, "c", "k", 5)
	first, _ := k.b.Step(0, api.ClMerge)
	second, _ := k.b.Step(0, api.ClMerge)
	if first.Topic == second.Topic {
		t.Errorf("twice the same: %+v, %+v", first, second)
	}
}

// 20.14: a merge that has no room gives up, and is tried again.
func TestMergeGivesUp(t *testing.T) {
	k := served(t, 1, "t")
	k.write(1, 1, "t", "a", bulk(9))
	k.fill(1, 1, "t", "k", 3)
	k.d.SetQuota(k.d.Used() + 30) // a new segment has room, and no record
	ops := k.d.Ops()
	wantList(t, "kinds", k.mergeUntil(1, api.MgGive), []int{api.MgMake, api.MgGive})
	k.wantState("given up", 1, 1, 0, 0)
	if k.d.Ops() == ops {
		t.Errorf("nothing was tried")
	}
	wantList(t, "kinds", k.mergeUntil(1, api.MgGive), []int{api.MgMake, api.MgGive})
	k.d.SetQuota(0)
	wantList(t, "no room at all", k.mergeUntil(1, api.MgGive), []int{api.MgGive})
	k.wantState("given up", 1, 1, 0, 0)
	k.d.SetQuota(wide)
	k.mergeUntil(1, api.MgEnd)
	k.wantRecords("merged", "t", value(0, "a", bulk(9)), value(2, "k", bulk(1)), value(3, "k", bulk(2)))
	k.rest()
}

// 20.14: a step that is refused behind the merge's moment counts as done.
func TestMergeIsRefusedBehindItsMoment(t *testing.T) {
	k := served(t, 1, "t")
	k.fill(1, 1, "t", "k", 5)
	k.mergeUntil(1, api.MgCommit)
	for _, name := range []string{"t1.1.seg", "t1.2.hint"} {
		want(t, "Remove", k.d.Remove(name), api.OK)
	}
	wantList(t, "kinds", k.mergeUntil(1, api.MgEnd), []int{api.MgRemove, api.MgRemove, api.MgDir, api.MgEnd})
	k.wantState("over", 1, 1, 0, 0)
	k.wantRecords("merged", "t", value(4, "k", bulk(4)))
}

// 20.14: what is written, read and dropped between the steps of a merge.
func TestMergeAmongOthers(t *testing.T) {
	k := served(t, 1, "t")
	k.write(1, 1, "t", "a", bulk(7))
	k.fill(1, 1, "t", "k", 4)
	for i := range 30 {
		d, e := k.b.Step(0, api.ClMerge)
		want(t, "Step", e, api.OK)
		if d.Kind == api.MgEnd {
			break
		}
		key := []string{"a", "k", "x"}[i%3]
		k.write(1, 1, "t", key, "new")
		k.settle(1)
		recs, _ := k.b.Records("t")
		k.answered(1, 1, get("t", key), api.Response{Records: []api.Record{recs[len(recs)-1]}})
	}
}
