package broker_test

import (
	"bytes"
	"fmt"
	"slices"
	"testing"

	"chronicle/api"
	"chronicle/cursor"
	"chronicle/probe"
	"chronicle/stream"
)

// speech is the bytes of many requests of all kinds, and of frames that are none.
func speech(t *testing.T) []byte {
	t.Helper()
	list := []api.Request{
		create("t"), create("u"), create("t"), create("T"), put("t", "a", "1"), by(5, 1, put("t", "b", bulk(1))), by(5, 1, put("t", "b", bulk(1))), by(5, 3, put("t", "b", "")),
		remove("t", "a"), put("u", "x", bulk(2)), put("u", "x", bulk(3)), put("u", "x", bulk(4)), get("t", "b"), replay("t", 0), subscribe("u", 0), subscribe("u", 9),
		snapshot("u", ""), join("g"), reach("g", "t", 1, 0), reach("g", "t", 2, 0), position("g", "t"), stat("u"), {Op: api.OpList, Key: "t"},
		{Op: api.OpUnsubscribe, Number: 99}, put("none", "k", "v"), drop("none"), ping(), put("u", "x", bulk(5)), drop("t"), get("t", "b"),
	}
	var b []byte
	for i, r := range list {
		f := frame(t, id(uint32(i+1), r))
		b = append(b, f...)
		if i%7 == 3 {
			spoilt := bytes.Clone(f)
			spoilt[len(spoilt)-1] ^= 64
			b = append(b, spoilt...)
		}
		if i == 12 {
			b = append(b, frames(t, answer(3, api.OpPing, 0))...)
		}
	}
	return b
}

// P1: the same is answered and sent, whatever chunks the bytes came in.
func TestAnyCutIsTheSame(t *testing.T) {
	whole := speech(t)
	serve := func(chunks [][]byte) ([]api.Did, []byte) {
		k := served(t, 2)
		joined := 0
		for _, chunk := range chunks {
			n, e := k.b.Feed(2, chunk)
			want(t, "Feed", e, api.OK)
			joined += n
		}
		want(t, "requests", joined, 30)
		k.say(1, ping())
		var dids []api.Did
		for i := range 300 {
			d, e := k.b.Step(int64(i/10), i*i%5)
			want(t, "Step", e, api.OK)
			dids = append(dids, d)
		}
		k.hear(1, answer(0, api.OpPing, 0))
		return dids, k.all(2)
	}
	dids, sent := serve([][]byte{whole})
	list, rest := read(sent)
	if len(list) < 35 || len(rest) > 0 {
		t.Fatalf("%d answers, and %d bytes", len(list), len(rest))
	}
	cuts := [][]int{nil, {}}
	for size := 1; size < 60; size += 9 {
		var at []int
		for i := 0; i < len(whole); i += size {
			at = append(at, i)
		}
		cuts = append(cuts, at)
	}
	for seed := range uint64(20) {
		var at []int
		for _, x := range probe.Noise(seed, int(seed)*3) {
			at = append(at, int(x>>20%5000))
		}
		cuts = append(cuts, stream.Cuts(len(whole), at))
	}
	for _, at := range cuts {
		chunks, from := [][]byte{nil}, 0
		for _, end := range at {
			chunks = append(chunks, whole[from:end])
			from = end
		}
		got, other := serve(append(chunks, whole[from:], []byte{}))
		wantList(t, "what is done", got, dids)
		if !bytes.Equal(other, sent) {
			t.Errorf("cut at %v: %s, want %s", at, tell(other), tell(sent))
		}
	}
}

// P1: each answer is sent when its request is served, or by the step that commits it.
func TestEachStepSendsItsAnswer(t *testing.T) {
	k := served(t, 1)
	n, e := k.b.Feed(1, speech(t))
	want(t, "requests", n, 30)
	want(t, "requests", e, api.OK)
	list, _ := read(k.all(1))
	for _, a := range list {
		want(t, "ahead of all steps", fmt.Sprint(a), fmt.Sprint(answer(0, api.OpPing, api.CodeBadRequest)))
	}
	owed := map[uint32]int{}
	next := uint32(1)
	for i := range 300 {
		d, _ := k.b.Step(0, i*i%5)
		list, _ := read(k.all(1))
		for _, a := range list {
			switch {
			case a.Op == api.OpDeliver:
				want(t, "a delivery, or a drop", d.What == api.DidDeliver || d.Kind == api.OpDrop, true)
			case a.Id == next && d.What == api.DidRequest:
				want(t, "its code", a.Code, d.Code)
			default:
				want(t, "it was owed", owed[a.Id], 1)
				owed[a.Id]++
			}
		}
		if d.What == api.DidRequest {
			if d.Code < 0 {
				owed[next]++
			} else {
				want(t, "an answer", len(list) > 0, true)
			}
			next++
		}
		if d.What == api.DidCommit {
			for n, times := range owed {
				want(t, fmt.Sprintf("the answer to %d is sent", n), times, 2)
			}
		}
	}
	want(t, "requests", next, 31)
}

// follower is a topic t of the horizon 5 with a=1, on which the connection 2 follows; it has been delivered that.
func follower(t *testing.T) *desk {
	t.Helper()
	k := served(t, 2)
	k.ask(1, api.Request{Op: api.OpCreate, Topic: "t", Number: 5}, did(1, 1, api.OpCreate, 0))
	k.write(1, 1, "t", "a", bulk(1))
	k.commit(1)
	k.ask(2, id(9, subscribe("t", 0)), did(2, 1, api.OpSubscribe, 0))
	k.step(api.ClDeliver, delivered(2, 1))
	k.b.Out(2, wide)
	return k
}

// P4: as long as the tombstone is young it stays, and is delivered.
func TestHorizonDoesNotPass(t *testing.T) {
	k := follower(t)
	k.ask(1, remove("t", "a"), did(1, 1, api.OpDelete, -1))
	k.now = 4
	k.write(1, 1, "t", "z", bulk(1))
	k.write(1, 1, "t", "z", bulk(2)) // a roll: a segment is sealed
	k.settle(1)
	k.mergeUntil(1, api.MgCommit)
	k.step(api.ClDeliver, delivered(2, 3))
	list, _ := read(k.all(2))
	want(t, "the tombstone", list[0].Records[0], tomb(1, "a"))
	want(t, "the mark", k.statOf("t").Number, 0)
}

// P4: who was given a value, and is not served while its tombstone goes, is told so, and is delivered nothing more.
func TestHorizonPassesAReader(t *testing.T) {
	k := follower(t)
	k.ask(1, remove("t", "a"), did(1, 1, api.OpDelete, -1))
	k.now = 5
	k.write(1, 1, "t", "z", bulk(1))
	k.write(1, 1, "t", "z", bulk(2)) // a roll: a segment is sealed
	for range 20 {
		d, _ := k.b.Step(k.now, api.ClMerge)
		if d.What == api.DidMerge && d.Kind == api.MgCommit {
			break
		}
		if d.What == api.DidDeliver {
			t.Fatal("the reader has been served")
		}
	}
	k.b.Out(2, wide)
	want(t, "the mark", k.statOf("t").Number, 2)
	k.step(api.ClDeliver, delivered(2, 0))
	k.hear(2, api.Response{Id: 9, Op: api.OpDeliver, Code: api.CodeHorizonPassed, Offset: 1})
	k.settle(1)
	k.write(1, 1, "t", "a", "2")
	k.settle(1)
	for range 30 {
		k.b.Step(k.now, api.ClDeliver)
	}
	k.hear(2)
	// Who begins anew is right.
	k.ask(2, id(10, subscribe("t", 0)), did(2, 1, api.OpSubscribe, 0))
	k.b.Out(2, wide)
	k.b.Step(k.now, api.ClDeliver)
	list, _ := read(k.all(2))
	recs, _ := k.b.Records("t")
	wantList(t, "all that is left", list[0].Records, recs)
}

// statOf is what OpStat tells of a topic.
func (k *desk) statOf(name string) api.Response {
	k.t.Helper()
	k.b.Out(1, wide)
	k.say(1, stat(name))
	for range 5 {
		if d, _ := k.b.Step(k.now, api.ClRequest); d.What == api.DidRequest {
			break
		}
	}
	list, _ := read(k.all(1))
	return api.Response{Offset: list[len(list)-1].Offset, Number: list[len(list)-1].Number}
}

// P3: what a replay from 0 delivers has the fold of the log, ahead of a merge, at each of its steps, and behind it.
func TestReplaysFold(t *testing.T) {
	k := served(t, 1, "t")
	var log []api.Record
	for i := range 14 {
		key := fmt.Sprint("k", i%4)
		r := value(int64(i), key, bulk(i))
		if i%5 == 3 {
			r = tomb(int64(i), key)
			k.ask(1, remove("t", key), did(1, 1, api.OpDelete, -1))
		} else {
			k.write(1, 1, "t", key, bulk(i))
		}
		log = append(log, r)
	}
	k.settle(1)
	for i := range uint32(40) {
		k.ask(1, id(i, replay("t", 0)), did(1, 1, api.OpReplay, 0))
		var recs []api.Record
		for range 40 {
			d, _ := k.b.Step(0, api.ClDeliver)
			if d.What != api.DidDeliver {
				break
			}
		}
		list, _ := read(k.all(1))
		for _, a := range list {
			if a.Op == api.OpDeliver {
				recs = append(recs, a.Records...)
			}
		}
		for j, r := range recs {
			want(t, "a record of the log", r, log[r.Offset])
			if j > 0 && r.Offset <= recs[j-1].Offset {
				t.Errorf("offsets do not rise")
			}
		}
		wantList(t, "the fold", cursor.Fold(nil, recs), cursor.Fold(nil, log))
		if slices.IndexFunc(recs, func(r api.Record) bool { return r == log[13] }) < 0 {
			t.Errorf("the last tombstone is missing")
		}
	}
}

// P8: the generation and the position outlive a crash, and the old generation is fenced.
func TestGroupsOutliveACrash(t *testing.T) {
	k := served(t, 1, "t")
	k.write(1, 1, "t", "a", "1")
	k.ask(1, join("g"), did(1, 0, api.OpJoin, -1))
	k.commit(2)
	k.ask(1, reach("g", "t", 1, 1), did(1, 1, api.OpCommit, -1))
	k.commit(1)
	k.b.Out(1, wide)
	k.ask(1, reach("g", "t", 1, 0), did(1, 1, api.OpCommit, -1)) // not committed: it may be lost
	for _, picks := range [][]int{nil, {0, 0, 0, 3}, {1, 1, 1, 1, 1, 1, 1}} {
		next := over(t, loaded(t, k.d.Crash(picks)), usual())
		next.connect()
		next.say(1, id(1, position("g", "t")), id(2, reach("g", "t", 1, 1)), id(3, join("g")), id(4, reach("g", "t", 1, 0)), id(5, reach("g", "t", 2, 0)), id(6, position("g", "t")))
		for range 6 {
			next.b.Step(0, 0)
		}
		next.commit(1)
		next.b.Step(0, 0)
		list, _ := read(next.all(1))
		at := list[0].Offset
		want(t, "the position", at == 1 || at == 0, true)
		if picks == nil {
			want(t, "the position", at, 1)
		}
		for i, wanted := range []api.Response{
			{Id: 1, Op: api.OpPosition, Offset: at}, answer(4, api.OpCommit, api.CodeSequence), {Id: 6, Op: api.OpPosition, Offset: at},
			answer(2, api.OpCommit, 0), {Id: 3, Op: api.OpJoin, Number: 2}, answer(5, api.OpCommit, 0),
		} {
			want(t, "an answer", fmt.Sprint(list[i]), fmt.Sprint(wanted))
		}
		next.answered(1, 1, position("g", "t"), api.Response{})
	}
}

// 20.16: whatever is picked, each class that has work is served. (Of deliveries no call tells whether one is ready: the scripts look at them.)
func TestNoClassStarves(t *testing.T) {
	for pick := range 4 {
		k := served(t, 2, "t")
		var passed, served [4]int
		for i := range 2000 {
			k.b.Feed(1, frame(t, put("t", fmt.Sprint("k", i%3), bulk(i))))
			k.b.Feed(2, frame(t, id(uint32(i), replay("t", 0))))
			k.b.Out(1, wide)
			k.b.Out(2, wide)
			state := k.b.State()
			work := [4]bool{api.ClRequest: true, api.ClCommit: state.Pending > 0, api.ClMerge: state.Merges > 0}
			d, e := k.b.Step(int64(i), pick)
			want(t, "Step", e, api.OK)
			for class, has := range work {
				passed[class]++
				if d.What == class+1 {
					served[class]++
				}
				if !has || d.What == class+1 {
					passed[class] = 0
				}
				if passed[class] > patience {
					t.Fatalf("pick %d: the class %d is passed by", pick, class)
				}
			}
		}
		for class, n := range served {
			if n < 20 {
				t.Errorf("pick %d: the class %d was served %d times", pick, class, n)
			}
		}
	}
}

// 20.16: a connection whose inbox is not empty is served within 64 requests.
func TestNoConnectionStarves(t *testing.T) {
	for late := 1; late <= maxConns; late++ {
		for begun := range 3 {
			k := served(t, maxConns)
			for range begun * 33 {
				k.flood(late)
				k.b.Step(0, 0)
			}
			k.say(late, ping())
			for n := 1; ; n++ {
				k.flood(late)
				d, _ := k.b.Step(0, 0)
				want(t, "a request", d.What, api.DidRequest)
				if n > 4*maxConns {
					t.Fatalf("the connection %d is not served", late)
				}
				if d.Conn == late {
					break
				}
			}
		}
	}
}

// flood lets requests wait at all connections but one.
func (k *desk) flood(but int) {
	for conn := 1; conn <= maxConns; conn++ {
		for range 2 {
			if conn != but {
				k.b.Feed(conn, frame(k.t, ping()))
				k.b.Out(conn, wide)
			}
		}
	}
}

// 20.18: what is answered CodeOK is there behind a crash that leaves nothing but what was synced.
func TestAcknowledgedIsDurable(t *testing.T) {
	k := served(t, 1, "t")
	k.say(1, id(1, put("t", "a", "1")), id(2, remove("t", "b")), id(3, join("g")), id(4, reach("g", "t", 1, 0)))
	for range 4 {
		k.b.Step(0, 0)
		k.hear(1)
		next := over(t, loaded(t, k.d.Crash(nil)), usual())
		next.wantRecords("nothing is acknowledged", "t")
	}
	k.commit(2)
	list, _ := read(k.all(1))
	want(t, "answers", len(list), 4)
	next := over(t, loaded(t, k.d.Crash(nil)), usual())
	next.wantRecords("acknowledged", "t", value(0, "a", "1"), tomb(1, "b"))
	next.connect()
	next.answered(1, 1, position("g", "t"), api.Response{})
	next.ask(1, id(1, join("g")), did(1, 0, api.OpJoin, -1))
	next.commit(1)
	next.hear(1, api.Response{Id: 1, Op: api.OpJoin, Number: 2})
}

// 20.18: a roll acknowledges too, and what it has acknowledged is durable.
func TestAcknowledgedByARoll(t *testing.T) {
	k := served(t, 1, "t")
	for i := range 9 {
		k.ask(1, id(uint32(i), put("t", fmt.Sprint(i), bulk(i))), did(1, 1, api.OpPut, -1))
		list, _ := read(k.all(1))
		if i%2 == 1 || i == 0 {
			want(t, "answers", len(list), 0)
			continue
		}
		want(t, "answers", len(list), 2)
		next := over(t, loaded(t, k.d.Crash(nil)), usual())
		recs, _ := next.b.Records("t")
		want(t, "records", len(recs), i)
	}
}

// P7, 20.17: a request that is refused adds no record, and takes none away.
func TestRefusalsChangeNothing(t *testing.T) {
	k := served(t, 1, "t")
	k.write(1, 1, "t", "a", "1")
	k.ask(1, by(3, 1, put("t", "b", "2")), did(1, 1, api.OpPut, -1))
	k.ask(1, join("g"), did(1, 0, api.OpJoin, -1))
	k.commit(2)
	k.b.Out(1, wide)
	undone(t, "refusals", k.d, func() {
		for _, c := range []struct {
			about int
			code  int
			r     api.Request
		}{
			{0, api.CodeNoTopic, put("u", "a", "")}, {0, api.CodeExists, create("t")}, {1, api.CodeSequence, by(3, 3, put("t", "a", ""))}, {1, api.CodeSequence, by(4, 2, put("t", "a", ""))},
			{1, api.CodeSequence, reach("g", "t", 2, 0)}, {1, api.CodeBeyond, reach("g", "t", 1, 3)}, {1, api.CodeBeyond, replay("t", 3)}, {1, api.CodeBeyond, subscribe("t", 4)},
			{1, api.CodeNoSuch, reach("h", "t", 1, 0)}, {1, api.CodeNoSuch, position("g", "t")}, {0, api.CodeNoSuch, api.Request{Op: api.OpUnsubscribe}},
			{0, api.CodeBadRequest, create("T")}, {1, api.CodeBadRequest, put("t", "", "")}, {0, api.CodeBadRequest, join("")},
		} {
			k.answered(1, c.about, c.r, api.Response{Code: c.code})
		}
		k.rest()
	})
	k.wantRecords("refusals", "t", value(0, "a", "1"), api.Record{Kind: api.KValue, Offset: 1, Pid: 3, Seq: 1, Key: "b", Value: "2"})
	k.wantState("refusals", 1, 1, 0, 0)
}
