package broker_test

import (
	"fmt"
	"testing"

	"chronicle/api"
)

// fatal is a step in which the power can go: what is done ahead of it, and which class it is.
type fatal struct {
	ahead func(*desk)
	class int
}

// fatals is a step of each kind that calls the disk, one for each operation, in a store with the topics t and u, sealed segments in t, and two connections.
func fatals() map[string]fatal {
	asking := func(r api.Request) fatal {
		return fatal{func(k *desk) { k.say(1, r) }, api.ClRequest}
	}
	merging := func(kind int) fatal {
		return fatal{func(k *desk) {
			if kind >= 0 {
				k.mergeUntil(1, kind)
			}
		}, api.ClMerge}
	}
	return map[string]fatal{
		"create":       asking(create("new")),
		"drop":         asking(drop("t")),
		"put":          asking(put("u", "k", "v")),
		"delete":       asking(remove("u", "k")),
		"a roll":       {func(k *desk) { k.fill(1, 2, "u", "k", 2); k.say(1, put("u", "k", bulk(1))) }, api.ClRequest},
		"join":         asking(join("h")),
		"commit":       asking(reach("g", "t", 1, 0)),
		"a commit":     {func(k *desk) { k.write(1, 2, "u", "k", "v") }, api.ClCommit},
		"two commits":  {func(k *desk) { k.write(1, 2, "u", "k", "v"); k.ask(1, join("g"), did(1, 0, api.OpJoin, -1)) }, api.ClCommit},
		"a new merge":  {func(*desk) {}, api.ClMerge},
		"a new file":   merging(api.MgDrop),
		"a sealing":    merging(api.MgKeep),
		"a hint":       merging(api.MgSeal),
		"a directory":  merging(api.MgHint),
		"its moment":   merging(api.MgDir),
		"a removal":    merging(api.MgCommit),
		"one more":     merging(api.MgRemove),
		"its end":      {func(k *desk) { k.mergeUntil(1, api.MgRemove); k.mergeUntil(1, api.MgRemove) }, api.ClMerge},
		"drop, merged": {func(k *desk) { k.mergeUntil(1, api.MgKeep); k.say(1, drop("t")) }, api.ClRequest},
	}
}

// beforeFatal is such a store, all of it committed, ahead of the step.
func beforeFatal(t *testing.T, f fatal) *desk {
	t.Helper()
	k := served(t, 2, "t", "u")
	k.fill(1, 1, "t", "k", 1)
	k.write(1, 1, "t", "a", bulk(2))
	k.fill(1, 1, "t", "k", 3)
	k.ask(2, join("g"), did(2, 0, api.OpJoin, -1))
	k.ask(2, reach("g", "t", 1, 2), did(2, 1, api.OpCommit, -1))
	k.settle(2)
	k.ask(2, ping(), did(2, 0, api.OpPing, 0)) // its answer is not taken
	f.ahead(k)
	k.b.Out(1, wide)
	return k
}

// 20.5: the power goes within each kind of step, at each of its operations; and every call behind it.
func TestPowerGoes(t *testing.T) {
	for what, f := range fatals() {
		k := beforeFatal(t, f)
		before := k.d.Ops()
		whole, e := k.b.Step(0, f.class)
		want(t, what, e, api.OK)
		ops := k.d.Ops() - before
		for fuse := range ops {
			k := beforeFatal(t, f)
			k.b.Connect()
			k.d.Fuse(fuse)
			what := fmt.Sprintf("%s, a fuse of %d", what, fuse)
			d, e := k.b.Step(0, f.class)
			if e == api.OK && k.d.Dead() { // it went while it was tidied up: the next call that needs the disk tells
				continue
			}
			want(t, what, d, api.Did{})
			want(t, what, e, api.ErrDead)
			k.wantDead(what)
		}
		// Without power anything that needs the disk is refused.
		k = beforeFatal(t, f)
		unpower(t, k.d)
		d, e := k.b.Step(0, f.class)
		if ops > 0 {
			want(t, what+" without power", d, api.Did{})
			want(t, what+" without power", e, api.ErrDead)
			k.wantDead(what + " without power")
		} else if d != whole && e != api.ErrDead {
			t.Errorf("%s without power: %+v, %d", what, d, e)
		}
	}
}

// wantDead fails unless a broker of fatals is dead, in all its calls.
func (k *desk) wantDead(what string) {
	k.t.Helper()
	state := k.b.State()
	want(k.t, what+": State", state.Dead, true)
	for range 2 {
		n, e := k.b.Connect()
		want(k.t, what+": Connect", n, 0)
		want(k.t, what+": Connect", e, api.ErrDead)
		for _, conn := range []int{1, 2, 99} {
			n, e = k.b.Feed(conn, frame(k.t, ping()))
			want(k.t, what+": Feed", n, 0)
			want(k.t, what+": Feed", e, api.ErrDead)
			for _, n := range []int{-1, 0, 9} {
				b, e := k.b.Out(conn, n)
				want(k.t, what+": Out", len(b), 0)
				want(k.t, what+": Out", e, api.ErrDead)
			}
		}
		for now := range times() {
			for pick := range 4 {
				d, e := k.b.Step(now, pick)
				want(k.t, what+": Step", d, api.Did{})
				want(k.t, what+": Step", e, api.ErrDead)
			}
		}
	}
	want(k.t, what+": Shut of none", k.b.Shut(99), api.ErrNoConn)
	want(k.t, what+": Shut", k.b.Shut(2), api.OK)
	want(k.t, what+": Shut again", k.b.Shut(2), api.ErrNoConn)
	state.Conns--
	want(k.t, what+": State", k.b.State(), state)
	want(k.t, what+": Topics", len(k.b.Topics()), state.Topics)
	_, e := k.b.Records("t") // there is something to be read
	for _, info := range k.b.Topics() {
		if info.Name == "t" {
			want(k.t, what+": Records", e, api.ErrDead)
		}
	}
	_, e = k.b.Records("none")
	want(k.t, what+": Records", e, api.ErrNoTopic)
}

// 20.5: reading tells that the power is off, too, where a call of the broker's own reads.
func TestPowerIsOffForReaders(t *testing.T) {
	for what, r := range map[string]api.Request{"get": get("t", "k"), "replay": replay("t", 0), "subscribe": subscribe("t", 0), "snapshot": snapshot("t", "")} {
		k := beforeFatal(t, fatal{func(*desk) {}, 0})
		k.say(1, r)
		unpower(t, k.d)
		d, e := k.b.Step(0, 0)
		want(t, what, d, api.Did{})
		want(t, what, e, api.ErrDead)
		k.wantDead(what)
	}
}

// 20.5: what needs no disk is answered without power; a delivery tells its client alone, and the broker goes on.
func TestPowerIsOffUnnoticed(t *testing.T) {
	k := beforeFatal(t, fatal{func(*desk) {}, 0})
	k.ask(1, id(5, subscribe("t", 0)), did(1, 1, api.OpSubscribe, 0))
	k.b.Out(1, wide)
	unpower(t, k.d)
	k.step(api.ClDeliver, delivered(1, 0))
	k.hear(1, answer(5, api.OpDeliver, api.CodeBadRequest))
	k.answered(1, 0, ping(), api.Response{})
	k.answered(1, 1, stat("t"), api.Response{Offset: 5})
	k.answered(1, 1, position("g", "t"), api.Response{Offset: 2})
	k.answered(1, 2, get("u", "k"), api.Response{})
	k.answered(1, 0, api.Request{Op: api.OpList}, api.Response{Names: []string{"t", "u"}})
	want(t, "Connect", k.connect(), 3)
	want(t, "dead", k.b.State().Dead, false)
	k.say(1, put("u", "k", "v"))
	d, e := k.b.Step(0, 0)
	want(t, "put", d, api.Did{})
	want(t, "put", e, api.ErrDead)
	want(t, "dead", k.b.State().Dead, true)
}

// 20.5: a merge that gives up for want of room, while the power goes: the step is what it was.
func TestPowerGoesInTidyingUp(t *testing.T) {
	for fuse := range 3 {
		k := served(t, 1, "t")
		k.write(1, 1, "t", "a", bulk(9))
		k.fill(1, 1, "t", "k", 3)
		k.d.SetQuota(k.d.Used() + 30)
		k.step(api.ClMerge, merged(1, api.MgMake))
		k.d.Fuse(fuse)
		k.step(api.ClMerge, merged(1, api.MgGive))
		k.wantState("given up", 1, 1, 0, 0)
		want(t, "power", k.d.Dead(), fuse == 0)
	}
}

// 20.5: a merge that the power ends is open no more; one whose moment is past is.
func TestMergesOfTheDead(t *testing.T) {
	k := beforeFatal(t, fatal{func(k *desk) { k.mergeUntil(1, api.MgSeal) }, 0})
	want(t, "open merges", k.b.State().Merges, 1)
	k.d.Fuse(0)
	_, e := k.b.Step(0, api.ClMerge)
	want(t, "Step", e, api.ErrDead)
	want(t, "open merges", k.b.State().Merges, 0)
	k = beforeFatal(t, fatal{func(k *desk) { k.mergeUntil(1, api.MgCommit) }, 0})
	k.d.Fuse(0)
	_, e = k.b.Step(0, api.ClMerge)
	want(t, "Step", e, api.ErrDead)
	want(t, "open merges", k.b.State().Merges, 1)
}

// 20.5, 20.11: the groups' Forget is a call of the broker's own.
func TestPowerGoesInForget(t *testing.T) {
	k := beforeFatal(t, fatal{func(k *desk) { k.say(1, drop("t")) }, 0})
	before := k.d.Ops()
	d, e := k.b.Step(0, 0)
	want(t, "a drop", d, did(1, 1, api.OpDrop, 0))
	want(t, "a drop", e, api.OK)
	ops := k.d.Ops() - before
	k = beforeFatal(t, fatal{func(k *desk) { k.say(1, drop("t")) }, 0})
	k.d.Fuse(ops - 1) // the last operation is the tombstone of the group's position
	d, e = k.b.Step(0, 0)
	want(t, "a drop", d, api.Did{})
	want(t, "a drop", e, api.ErrDead)
	k.wantTopics("its moment is past", "u")
	k.wantDead("a drop")
}
