package broker_test

import (
	"testing"

	"chronicle/api"
	"chronicle/group"
	"chronicle/topic"
)

// 20.11: OpDrop
func TestDrop(t *testing.T) {
	k := served(t, 1, "a", "t", "u")
	k.write(1, 2, "t", "k", "v")
	k.write(1, 3, "u", "k", "w")
	k.commit(2)
	k.b.Out(1, wide)
	k.answered(1, 2, drop("t"), api.Response{})
	k.wantTopics("dropped", "a", "u")
	k.wantState("dropped", 1, 2, 0, 0)
	for name := range filesOf(k.d.Image()) {
		if name[:2] == "t2" {
			t.Errorf("%s is there still", name)
		}
	}
	k.answered(1, 0, drop("t"), api.Response{Code: api.CodeNoTopic})
	k.answered(1, 0, get("t", "k"), api.Response{Code: api.CodeNoTopic})
	k.answered(1, 3, get("u", "k"), api.Response{Records: []api.Record{value(0, "k", "w")}})
	k.answered(1, 4, create("t"), api.Response{Number: 4})
	k.answered(1, 4, get("t", "k"), api.Response{})
	k.rest()
}

// 20.11: who reads the topic, and who is owed an answer for it, is told; others are not.
func TestDropTellsReaders(t *testing.T) {
	k := served(t, 3, "t", "u")
	k.write(1, 1, "t", "k", "v")
	k.write(1, 2, "u", "k", "v")
	k.commit(2)
	k.b.Out(1, wide)
	for conn, list := range map[int][]api.Request{
		1: {id(1, subscribe("t", 1)), id(2, subscribe("u", 1))},
		2: {id(3, replay("t", 0)), id(4, snapshot("t", "")), id(5, snapshot("u", ""))},
	} {
		for _, r := range list {
			k.say(conn, r)
		}
	}
	k.say(1, id(6, put("t", "a", "1")), id(7, put("u", "a", "1")))
	k.say(3, id(8, put("t", "b", "2")), id(9, put("t", "c", "3")))
	for range 9 {
		d, _ := k.b.Step(0, api.ClRequest)
		want(t, "a request", d.What, api.DidRequest)
	}
	for conn := range 3 {
		k.b.Out(conn+1, wide)
	}
	k.ask(3, id(10, drop("t")), did(3, 1, api.OpDrop, api.CodeOK))
	// First those who are owed answers, then those who read.
	k.hear(1, answer(6, api.OpPut, api.CodeNoTopic), answer(1, api.OpDeliver, api.CodeNoTopic))
	k.hear(2, answer(3, api.OpDeliver, api.CodeNoTopic), answer(4, api.OpDeliver, api.CodeNoTopic))
	k.hear(3, answer(8, api.OpPut, api.CodeNoTopic), answer(9, api.OpPut, api.CodeNoTopic), answer(10, api.OpDrop, api.CodeOK))
	k.wantState("dropped", 3, 1, 1, 0)
	k.step(api.ClDeliver, delivered(2, 1))
	k.hear(2, api.Response{Id: 5, Op: api.OpDeliver, Offset: 1, Records: []api.Record{value(0, "k", "v")}})
	k.commit(1)
	k.hear(1, api.Response{Id: 7, Op: api.OpPut, Offset: 1})
	k.step(api.ClDeliver, delivered(1, 1))
	k.hear(1, api.Response{Id: 2, Op: api.OpDeliver, Offset: 2, More: true, Records: []api.Record{value(1, "a", "1")}})
	k.rest()
}

// 20.11: the positions of groups in it are forgotten, and those alone.
func TestDropForgetsPositions(t *testing.T) {
	k := served(t, 1, "t", "u")
	for _, g := range []string{"g", "h"} {
		k.ask(1, join(g), did(1, 0, api.OpJoin, -1))
		k.ask(1, reach(g, "t", 1, 0), did(1, 1, api.OpCommit, -1))
		k.ask(1, reach(g, "u", 1, 0), did(1, 2, api.OpCommit, -1))
	}
	k.commit(1)
	k.b.Out(1, wide)
	k.now = 9
	k.answered(1, 1, drop("t"), api.Response{})
	k.wantState("tombstones", 1, 1, 2, 0)
	k.commit(1)
	k.answered(1, 2, position("g", "u"), api.Response{})
	p, e := topic.Open(copied(t, k.d), 0, 65536, 0, 0)
	want(t, "Open", e, api.OK)
	g, e := group.New(p)
	want(t, "New", e, api.OK)
	wantList(t, "positions", g.Positions("g"), []api.GroupPos{{Group: "g", Topic: 2}})
	wantList(t, "positions", g.Positions("h"), []api.GroupPos{{Group: "h", Topic: 2}})
	recs, _ := p.Records()
	want(t, "the tombstone's time", recs[len(recs)-1].Time, 9)
	k.answered(1, 3, create("t"), api.Response{Number: 3})
	k.answered(1, 3, position("g", "t"), api.Response{Code: api.CodeNoSuch})
}

// 20.11: that nobody could be forgotten is not told.
func TestDropWithoutRoomToForget(t *testing.T) {
	k := served(t, 1, "t")
	k.ask(1, join("g"), did(1, 0, api.OpJoin, -1))
	k.ask(1, reach("g", "t", 1, 0), did(1, 1, api.OpCommit, -1))
	k.commit(1)
	k.b.Out(1, wide)
	k.d.SetQuota(k.d.Used() + 100) // room for a catalogue alone: no record takes what is kept for it
	k.answered(1, 1, drop("t"), api.Response{})
	k.wantState("dropped", 1, 0, 0, 0)
	k.rest()
	k.d.SetQuota(wide)
	k.answered(1, 2, create("t"), api.Response{Number: 2})
	k.answered(1, 2, position("g", "t"), api.Response{Code: api.CodeNoSuch})
}

// 20.11: an open merge is forgotten.
func TestDropOfAMerge(t *testing.T) {
	for steps := range 9 {
		k := served(t, 1, "t", "u")
		k.fill(1, 1, "t", "k", 6)
		for i := range steps + 1 {
			d, _ := k.b.Step(0, api.ClMerge)
			want(t, "a merge", d.What, api.DidMerge)
			if i == 0 {
				k.wantState("a merge", 1, 2, 0, 1)
			}
		}
		k.answered(1, 1, drop("t"), api.Response{})
		k.wantState("dropped", 1, 1, 0, 0)
		k.rest()
		wantList(t, "files", filesOf(k.d.Image()).names(), []string{"catalog", "t0.1.seg", "t0.man", "t2.1.seg", "t2.man"})
		k.answered(1, 3, create("t"), api.Response{Number: 3})
		k.fill(1, 3, "t", "k", 6)
		k.step(api.ClMerge, merged(3, api.MgDrop))
	}
}
