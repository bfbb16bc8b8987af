package broker_test

import (
	"bytes"
	"slices"
	"testing"

	"chronicle/api"
	"chronicle/probe"
)

// R3: a chunk is neither changed nor kept, with the room behind its end.
func TestChunksAreNotKept(t *testing.T) {
	k := served(t, 1, "t")
	whole := slices.Concat(frame(t, id(1, put("t", "key", "value"))), frame(t, id(2, put("t", "other", "text"))), frame(t, id(3, join("group"))))
	for i := 0; i <= len(whole); i += 7 {
		chunk, same := probe.Roomy(string(whole[i:min(i+7, len(whole))]))
		_, e := k.b.Feed(1, chunk)
		want(t, "Feed", e, api.OK)
		want(t, "the chunk is the same", same(), true)
		probe.Scribble(chunk)
	}
	for range 3 {
		k.b.Step(0, api.ClRequest)
	}
	k.commit(2)
	k.hear(1, api.Response{Id: 3, Op: api.OpJoin, Number: 1}, api.Response{Id: 1, Op: api.OpPut}, api.Response{Id: 2, Op: api.OpPut, Offset: 1})
	k.wantRecords("kept", "t", value(0, "key", "value"), value(1, "other", "text"))
}

// R3: what is answered is new memory.
func TestAnswersAreNew(t *testing.T) {
	k := served(t, 1, "t", "u")
	k.write(1, 1, "t", "a", "1")
	k.write(1, 1, "t", "b", "2")
	k.commit(1)
	for range 2 {
		infos := k.b.Topics()
		wantList(t, "Topics", infos, []api.TopicInfo{{Name: "t", Id: 1, Next: 2, Segs: 1, Live: 2}, {Name: "u", Id: 2, Segs: 1}})
		probe.Scribble(infos)
		recs, _ := k.b.Records("t")
		wantList(t, "Records", recs, []api.Record{value(0, "a", "1"), value(1, "b", "2")})
		probe.Scribble(recs)
	}
	all := k.all(1)
	k.ask(1, id(1, ping()), did(1, 0, api.OpPing, 0))
	k.ask(1, id(2, ping()), did(1, 0, api.OpPing, 0))
	probe.Scribble(all)
	first, _ := k.b.Out(1, 5)
	kept := bytes.Clone(first)
	_ = append(first, 1, 2, 3)
	probe.Scribble(first)
	rest := append(kept, k.all(1)...)
	if !bytes.Equal(rest, frames(t, answer(1, api.OpPing, 0), answer(2, api.OpPing, 0))) {
		t.Errorf("what is taken is not new memory: %s", tell(rest))
	}
}

// R2: two brokers have nothing in common.
func TestBrokersAreApart(t *testing.T) {
	k, other := served(t, 1, "t"), served(t, 2, "t", "u")
	k.write(1, 1, "t", "a", "1")
	other.wantState("the other one", 2, 2, 0, 0)
	other.rest()
	other.write(2, 2, "u", "b", "2")
	k.commit(1)
	k.wantRecords("the one", "t", value(0, "a", "1"))
	other.wantRecords("the other", "t")
	other.commit(1)
	k.wantState("the one", 1, 1, 0, 0)
	k.hear(1, api.Response{Op: api.OpPut})
	other.hear(1)
	other.hear(2, api.Response{Op: api.OpPut})
}
