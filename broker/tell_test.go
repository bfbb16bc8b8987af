package broker_test

import (
	"testing"

	"chronicle/api"
)

// 20.15
func TestTell(t *testing.T) {
	k := store(t, usual())
	k.wantState("new", 0, 0, 0, 0)
	want(t, "Topics", len(k.b.Topics()), 0)
	k.connect()
	k.connect()
	k.wantState("connected", 2, 0, 0, 0)
	for i, name := range []string{"b", "a", "c"} {
		k.ask(1, create(name), did(1, i+1, api.OpCreate, 0))
	}
	k.wantState("topics", 2, 3, 0, 0)
	k.write(1, 1, "b", "x", "1")
	k.write(2, 1, "b", "y", "2")
	k.write(2, 3, "c", "x", "3")
	k.ask(2, join("g"), did(2, 0, api.OpJoin, -1))
	k.wantState("pending", 2, 3, 4, 0)
	wantList(t, "Topics", k.b.Topics(), []api.TopicInfo{{Name: "a", Id: 2, Segs: 1}, {Name: "b", Id: 1, Segs: 1}, {Name: "c", Id: 3, Segs: 1}})
	k.wantRecords("pending", "b")
	k.commit(3)
	k.wantState("committed", 2, 3, 0, 0)
	wantList(t, "Topics", k.b.Topics(), []api.TopicInfo{{Name: "a", Id: 2, Segs: 1}, {Name: "b", Id: 1, Next: 2, Segs: 1, Live: 2}, {Name: "c", Id: 3, Next: 1, Segs: 1, Live: 1}})
	k.wantRecords("committed", "b", value(0, "x", "1"), value(1, "y", "2"))
	k.wantRecords("committed", "a")
	k.ask(1, remove("b", "x"), did(1, 1, api.OpDelete, -1))
	k.wantState("pending", 2, 3, 1, 0)
	k.commit(1)
	k.wantRecords("committed", "b", value(0, "x", "1"), value(1, "y", "2"), tomb(2, "x"))
	for _, name := range []string{"", "d", "B", "bb"} {
		recs, e := k.b.Records(name)
		want(t, "Records("+name+")", len(recs), 0)
		want(t, "Records("+name+")", e, api.ErrNoTopic)
	}
	k.fill(1, 2, "a", "k", 5)
	k.fill(1, 3, "c", "k", 5)
	k.b.Step(0, api.ClMerge)
	k.wantState("a merge", 2, 3, 0, 1)
	k.b.Step(0, api.ClMerge)
	k.wantState("two merges", 2, 3, 0, 2)
	k.ask(1, drop("a"), did(1, 2, api.OpDrop, 0))
	k.wantState("dropped", 2, 2, 0, 1)
	_, e := k.b.Records("a")
	want(t, "Records of what was dropped", e, api.ErrNoTopic)
	want(t, "Shut", k.b.Shut(1), api.OK)
	k.wantState("shut", 1, 2, 0, 1)
	// To be told changes nothing.
	undone(t, "telling", k.d, func() {
		k.b.State()
		k.b.Topics()
		k.b.Records("b")
	})
}

// 20.15: what is pending in a topic that is dropped is no more.
func TestPendingOfWhatIsDropped(t *testing.T) {
	k := served(t, 1, "t", "u")
	k.write(1, 1, "t", "a", "1")
	k.write(1, 1, "t", "b", "1")
	k.write(1, 2, "u", "b", "1")
	k.wantState("pending", 1, 2, 3, 0)
	k.ask(1, drop("t"), did(1, 1, api.OpDrop, 0))
	k.wantState("dropped", 1, 1, 1, 0)
}
