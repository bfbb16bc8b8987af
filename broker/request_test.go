package broker_test

import (
	"fmt"
	"math"
	"strings"
	"testing"

	"chronicle/api"
	"chronicle/broker"
	"chronicle/manifest"
	"chronicle/probe"
	"chronicle/simfs"
)

// onTopic is a request of each operation that is about a topic.
func onTopic(name string) []api.Request {
	return []api.Request{
		drop(name), put(name, "k", "v"), remove(name, "k"), get(name, "k"), replay(name, 0), snapshot(name, ""),
		subscribe(name, 0), reach("g", name, 1, 0), position("g", name), stat(name),
	}
}

// 20.11: where there is no such topic.
func TestNoTopic(t *testing.T) {
	k := served(t, 1, "t")
	for _, name := range []string{"", "u", "T", "tt", strings.Repeat("x", 24), "\x00"} {
		for _, r := range onTopic(name) {
			k.answered(1, 0, r, api.Response{Code: api.CodeNoTopic})
		}
	}
	// Nothing else is looked at then.
	for _, r := range []api.Request{put("u", "", ""), get("u", ""), replay("u", 99), reach("", "u", 99, 99), position("", "u"), by(math.MaxInt64, 0, put("u", "k", ""))} {
		k.answered(1, 0, r, api.Response{Code: api.CodeNoTopic})
	}
	k.rest()
}

// 20.11
func TestPingAndList(t *testing.T) {
	k := served(t, 2, "b", "abc", "ab", "a-1", "0")
	k.answered(1, 0, ping(), api.Response{})
	k.answered(2, 0, ping(), api.Response{})
	for prefix, names := range map[string][]string{
		"":      {"0", "a-1", "ab", "abc", "b"},
		"a":     {"a-1", "ab", "abc"},
		"ab":    {"ab", "abc"},
		"abc":   {"abc"},
		"abcd":  nil,
		"0":     {"0"},
		"A":     nil,
		"\xff":  nil,
		"b\x00": nil,
	} {
		k.answered(1, 0, api.Request{Op: api.OpList, Key: prefix}, api.Response{Names: names})
	}
	k.answered(1, 0, api.Request{Op: api.OpList, Key: strings.Repeat("a", 64)}, api.Response{})
	k.rest()
}

// 20.11
func TestCreate(t *testing.T) {
	k := served(t, 1)
	refuse := func(what string, r api.Request, code int) {
		t.Helper()
		undone(t, what, k.d, func() { k.answered(1, 0, r, api.Response{Code: code}) })
	}
	k.answered(1, 1, create("t"), api.Response{Number: 1})
	refuse("it is there", create("t"), api.CodeExists)
	for _, name := range []string{"", "T", "_", "a b", "a.b", "\xff", "é"} {
		refuse("no name", create(name), api.CodeBadRequest)
	}
	for _, horizon := range []int64{horizons + 1, math.MaxInt64} {
		refuse("no horizon", api.Request{Op: api.OpCreate, Topic: "u", Number: horizon}, api.CodeBadRequest)
	}
	for i, horizon := range []int64{0, 1, horizons - 1, horizons} {
		k.answered(1, i+2, api.Request{Op: api.OpCreate, Topic: fmt.Sprint("h", i), Number: horizon}, api.Response{Number: int64(i + 2)})
	}
	saved, e := manifest.LoadCatalogue(k.d)
	want(t, "LoadCatalogue", e, api.OK)
	var got []int64
	for _, entry := range saved.Topics {
		got = append(got, entry.Horizon)
		want(t, "limit", entry.Limit, 256)
	}
	wantList(t, "horizons", got, []int64{100, 1, horizons - 1, horizons, 100})
	room := k.d.Quota()
	k.d.SetQuota(k.d.Used() + 20)
	k.answered(1, 0, create("u"), api.Response{Code: api.CodeFull})
	k.d.SetQuota(room)
	for i := range 11 {
		k.answered(1, i+6, create(fmt.Sprint("n", i)), api.Response{Number: int64(i + 6)})
	}
	refuse("sixteen", create("u"), api.CodeTooMany)
	refuse("it is there, and sixteen", create("t"), api.CodeExists)
	k.wantState("sixteen", 1, 16, 0, 0)
	k.answered(1, 1, drop("t"), api.Response{})
	k.answered(1, 17, create("t"), api.Response{Number: 17})
	k.rest()
}

// 20.11: what is created and written to at once is there behind an Open; its time is the broker's.
func TestCreatedTopicIsUsed(t *testing.T) {
	k := served(t, 1)
	k.now = 30
	k.say(1, id(1, create("t")), id(2, put("t", "k", "v")), id(3, get("t", "k")))
	k.step(0, did(1, 1, api.OpCreate, api.CodeOK))
	k.step(0, did(1, 1, api.OpPut, -1))
	k.step(0, did(1, 1, api.OpGet, api.CodeOK))
	k.hear(1, api.Response{Id: 1, Op: api.OpCreate, Number: 1}, answer(3, api.OpGet, api.CodeOK))
	k.commit(1)
	k.hear(1, api.Response{Id: 2, Op: api.OpPut})
	v := value(0, "k", "v")
	v.Time = 30
	k.answered(1, 1, get("t", "k"), api.Response{Records: []api.Record{v}})
	k.b, _ = broker.Open(copied(t, k.d), usual(), 0)
	k.wantRecords("opened", "t", v)
}

// 20.11: OpPut, OpDelete
func TestWrites(t *testing.T) {
	k := served(t, 2, "t", "u")
	k.say(1, id(1, put("t", "a", "1")), id(2, remove("t", "a")), id(3, put("u", "a", "")), id(4, remove("u", "never")))
	for _, d := range []api.Did{did(1, 1, api.OpPut, -1), did(1, 1, api.OpDelete, -1), did(1, 2, api.OpPut, -1), did(1, 2, api.OpDelete, -1)} {
		k.step(0, d)
	}
	k.hear(1)
	k.wantRecords("pending", "t")
	k.wantState("pending", 2, 2, 4, 0)
	k.commit(2)
	k.hear(1, api.Response{Id: 1, Op: api.OpPut}, api.Response{Id: 2, Op: api.OpDelete, Offset: 1}, api.Response{Id: 3, Op: api.OpPut}, api.Response{Id: 4, Op: api.OpDelete, Offset: 1})
	k.wantRecords("committed", "t", value(0, "a", "1"), tomb(1, "a"))
	k.wantRecords("committed", "u", value(0, "a", ""), tomb(1, "never"))
	for _, r := range []api.Request{
		put("t", "", "v"), remove("t", ""), by(1<<32, 1, put("t", "k", "v")), by(math.MaxInt64, 1, remove("t", "k")),
		by(1, 1<<40, put("t", "k", "v")), by(1, 0, put("t", "k", "v")), by(0, 1, put("t", "k", "v")),
	} {
		k.answered(1, 1, r, api.Response{Code: api.CodeBadRequest})
	}
	long := put("t", strings.Repeat("k", 64), probe.Text(1, 1024))
	k.ask(1, long, did(1, 1, api.OpPut, -1))
	k.commit(1)
	k.hear(1, api.Response{Op: api.OpPut, Offset: 2})
}

// 20.11: a producer says a thing twice.
func TestWritesAgain(t *testing.T) {
	k := served(t, 2, "t")
	first, second := by(9, 1, put("t", "a", "1")), by(9, 2, remove("t", "a"))
	k.ask(1, id(1, first), did(1, 1, api.OpPut, -1))
	k.ask(1, id(2, first), did(1, 1, api.OpPut, -1)) // it is not committed yet
	k.ask(2, id(3, by(9, 1, remove("t", "other"))), did(2, 1, api.OpDelete, -1))
	k.answered(1, 1, by(9, 3, put("t", "a", "1")), api.Response{Code: api.CodeSequence})
	k.answered(1, 1, by(8, 2, put("t", "a", "1")), api.Response{Code: api.CodeSequence})
	k.wantState("one record", 2, 1, 1, 0)
	k.commit(1)
	k.hear(1, api.Response{Id: 1, Op: api.OpPut}, api.Response{Id: 2, Op: api.OpPut})
	k.hear(2, api.Response{Id: 3, Op: api.OpDelete})
	undone(t, "again", k.d, func() { k.answered(2, 1, first, api.Response{}) })
	k.ask(1, id(4, second), did(1, 1, api.OpDelete, -1))
	k.answered(1, 1, first, api.Response{Code: api.CodeSequence})
	k.ask(2, id(5, second), did(2, 1, api.OpDelete, -1))
	k.commit(1)
	k.hear(1, api.Response{Id: 4, Op: api.OpDelete, Offset: 1})
	k.hear(2, api.Response{Id: 5, Op: api.OpDelete, Offset: 1})
	k.answered(2, 1, second, api.Response{Offset: 1})
	// One that is committed is told at once, though others are pending.
	k.write(1, 1, "t", "z", "")
	k.answered(2, 1, second, api.Response{Offset: 1})
	k.commit(1)
	k.hear(1, api.Response{Op: api.OpPut, Offset: 2})
	recs, _ := k.b.Records("t")
	want(t, "records", len(recs), 3)
}

// 20.11: as many producers as may be.
func TestTooManyProducers(t *testing.T) {
	k := served(t, 1, "t")
	for pid := range int64(64) {
		k.ask(1, by(pid+1, 1, put("t", "k", "")), did(1, 1, api.OpPut, -1))
		k.settle(1)
	}
	k.answered(1, 1, by(65, 1, put("t", "k", "")), api.Response{Code: api.CodeTooMany})
	k.answered(1, 1, by(64, 1, put("t", "k", "")), api.Response{Offset: 63})
}

// 20.11: a disk without room. What is refused adds nothing.
func TestFullDisk(t *testing.T) {
	k := served(t, 1, "t")
	k.write(1, 1, "t", "a", "1")
	k.ask(1, join("g"), did(1, 0, api.OpJoin, -1))
	k.commit(2)
	k.b.Out(1, wide)
	size := recordSize(value(1, "b", "2"))
	k.d.SetQuota(k.d.Used() + api.Reserve + size - 1)
	undone(t, "no room", k.d, func() {
		k.answered(1, 1, put("t", "b", "2"), api.Response{Code: api.CodeFull})
		k.answered(1, 0, join("groupname"), api.Response{Code: api.CodeFull})
		k.answered(1, 1, get("t", "b"), api.Response{})
	})
	k.rest()
	k.d.SetQuota(k.d.Used() + api.Reserve + size)
	k.ask(1, put("t", "b", "2"), did(1, 1, api.OpPut, -1))
	k.commit(1)
	k.hear(1, api.Response{Op: api.OpPut, Offset: 1})
	k.d.SetQuota(0)
	k.answered(1, 1, reach("g", "t", 1, 0), api.Response{Code: api.CodeFull})
	k.answered(1, 1, drop("t"), api.Response{Code: api.CodeFull})
	k.answered(1, 0, create("u"), api.Response{Code: api.CodeFull})
	k.wantTopics("no room", "t")
	k.rest()
}

// 20.11: as many segments as may be.
func TestFullTopic(t *testing.T) {
	for what, key := range map[string]string{"all of it lives": "k%d", "much is superseded": "k"} {
		d, _ := simfs.New(wide)
		cfg := usual()
		cfg.Share = 100
		want(t, "Format", broker.Format(d, cfg, 0), api.OK)
		k := over(t, d, cfg)
		k.connect()
		k.ask(1, create("t"), did(1, 1, api.OpCreate, api.CodeOK))
		k.ask(1, put("t", "first", ""), did(1, 1, api.OpPut, -1)) // not all is superseded, so that no merge is due
		n := 1
		for ; n < 200; n++ {
			name := key
			if strings.Contains(key, "%") {
				name = fmt.Sprintf(key, n)
			}
			r := put("t", name, bulk(n))
			k.say(1, r)
			got, _ := k.b.Step(0, 0)
			for got.What != api.DidRequest {
				got, _ = k.b.Step(0, 0)
			}
			k.b.Out(1, wide)
			if got.Code != -1 {
				want(t, what, got, did(1, 1, api.OpPut, api.CodeFull))
				break
			}
		}
		want(t, what+": records", n, 2*64)
		want(t, what+": segments", k.b.Topics()[0].Segs, 64)
		want(t, what+": a roll has committed all", k.b.State().Pending, 0)
		k.rest()
	}
}

// recordSize is how many bytes a record has on the disk, by what a topic's file grows by.
func recordSize(r api.Record) int {
	d, _ := simfs.New(wide)
	broker.Format(d, usual(), 0)
	b, _ := broker.Open(d, usual(), 0)
	b.Connect()
	t := &testing.T{}
	k := &desk{t: t, d: d, b: b}
	k.ask(1, create("t"), did(1, 1, api.OpCreate, api.CodeOK))
	k.ask(1, put("t", "a", "1"), did(1, 1, api.OpPut, -1))
	used := d.Used()
	k.ask(1, put("t", r.Key, r.Value), did(1, 1, api.OpPut, -1))
	return d.Used() - used
}

// near is a store whose topic t (1) is close to the last offset.
func near(t *testing.T, next int64) *desk {
	t.Helper()
	k := served(t, 1, "t")
	m, e := manifest.Load(k.d, 1)
	want(t, "Load", e, api.OK)
	m.Next = next
	want(t, "Save", manifest.Save(k.d, m), api.OK)
	k = over(t, k.d, usual())
	k.connect()
	return k
}

// 20.11: the greatest offset.
func TestOffsetsEnd(t *testing.T) {
	k := near(t, api.MaxOffset-1)
	k.ask(1, put("t", "a", "1"), did(1, 1, api.OpPut, -1))
	k.answered(1, 1, put("t", "b", "2"), api.Response{Code: api.CodeOffsets})
	k.commit(1)
	k.hear(1, api.Response{Op: api.OpPut, Offset: api.MaxOffset - 1})
	k.answered(1, 1, remove("t", "b"), api.Response{Code: api.CodeOffsets})
	k.answered(1, 1, stat("t"), api.Response{Offset: api.MaxOffset})
	k.ask(1, join("g"), did(1, 0, api.OpJoin, -1))
	k.ask(1, reach("g", "t", 1, api.MaxOffset), did(1, 1, api.OpCommit, -1))
	k.commit(1)
	k.b.Out(1, wide)
	k.answered(1, 1, position("g", "t"), api.Response{Offset: api.MaxOffset})
	k.answered(1, 1, replay("t", api.MaxOffset+1), api.Response{Code: api.CodeBeyond})
	k.wantRecords("the last one", "t", value(api.MaxOffset-1, "a", "1"))
}

// 20.11
func TestGet(t *testing.T) {
	k := served(t, 1, "t", "u")
	k.write(1, 1, "t", "a", "1")
	k.write(1, 1, "t", "b", "2")
	k.answered(1, 1, get("t", "a"), api.Response{}) // pending
	k.commit(1)
	k.ask(1, remove("t", "b"), did(1, 1, api.OpDelete, -1))
	k.b.Out(1, wide)
	k.answered(1, 1, get("t", "b"), api.Response{Records: []api.Record{value(1, "b", "2")}})
	k.commit(1)
	k.b.Out(1, wide)
	k.answered(1, 1, get("t", "a"), api.Response{Records: []api.Record{value(0, "a", "1")}})
	k.answered(1, 1, get("t", "b"), api.Response{})
	k.answered(1, 1, get("t", "c"), api.Response{})
	k.answered(1, 2, get("u", "a"), api.Response{})
	k.answered(1, 1, get("t", ""), api.Response{Code: api.CodeBadRequest})
	long := value(3, strings.Repeat("k", 64), probe.Text(1, 1024))
	k.write(1, 1, "t", long.Key, long.Value)
	k.commit(1)
	k.b.Out(1, wide)
	k.answered(1, 1, get("t", long.Key), api.Response{Records: []api.Record{long}})
}

// 20.11: OpReplay, OpSubscribe
func TestReaders(t *testing.T) {
	k := served(t, 1, "u", "t")
	k.write(1, 2, "t", "a", "1")
	k.write(1, 2, "t", "b", "2")
	k.commit(1)
	k.b.Out(1, wide)
	for _, f := range []func(string, int64) api.Request{replay, subscribe} {
		for _, from := range []int64{3, 4, math.MaxInt64} {
			k.answered(1, 2, f("t", from), api.Response{Code: api.CodeBeyond})
		}
		k.answered(1, 1, f("u", 1), api.Response{Code: api.CodeBeyond})
	}
	k.write(1, 2, "t", "c", "3") // pending: nobody reads it
	for i, f := range []func(string, int64) api.Request{replay, subscribe} {
		k.answered(1, 2, f("t", 3), api.Response{Code: api.CodeBeyond})
		for from := range int64(3) {
			r := id(uint32(10*i)+uint32(from), f("t", from))
			k.ask(1, r, did(1, 2, r.Op, api.CodeOK))
			k.hear(1, api.Response{Id: r.Id, Op: r.Op, Offset: from, Number: 2})
		}
	}
	a, b := value(0, "a", "1"), value(1, "b", "2")
	for _, wanted := range []api.Response{
		{Id: 0, Records: []api.Record{a, b}},
		{Id: 1, Records: []api.Record{b}},
		{Id: 2},
		{Id: 10, More: true, Records: []api.Record{a, b}},
		{Id: 11, More: true, Records: []api.Record{b}},
	} {
		wanted.Op, wanted.Offset = api.OpDeliver, 2
		k.step(api.ClDeliver, delivered(1, len(wanted.Records)))
		k.hear(1, wanted)
	}
	k.commit(1)
	k.hear(1, api.Response{Op: api.OpPut, Offset: 2})
	for n := range uint32(3) {
		k.step(api.ClDeliver, delivered(1, 1))
		k.hear(1, api.Response{Id: 10 + (n+2)%3, Op: api.OpDeliver, Offset: 3, More: true, Records: []api.Record{value(2, "c", "3")}})
	}
	k.rest()
}

// 20.11: as many readers as may be, and two of one id.
func TestTooManyReaders(t *testing.T) {
	k := served(t, 2, "t")
	tooMany := func(r api.Request) {
		t.Helper()
		k.ask(1, r, did(1, 1, r.Op, api.CodeTooMany))
		k.hear(1, answer(r.Id, r.Op, api.CodeTooMany))
	}
	for n := range uint32(8) {
		k.ask(1, id(n, subscribe("t", 0)), did(1, 1, api.OpSubscribe, api.CodeOK))
		k.hear(1, api.Response{Id: n, Op: api.OpSubscribe, Number: 1})
		tooMany(id(n, subscribe("t", 0)))
		tooMany(id(n, replay("t", 0)))
		tooMany(id(n, snapshot("t", "")))
	}
	tooMany(id(8, subscribe("t", 0)))
	tooMany(id(9, replay("t", 0)))
	for n := range uint32(4) {
		k.say(1, id(20+n, snapshot("t", "")))
	}
	k.say(1, id(24, snapshot("t", "")))
	for _, code := range []int{0, 0, 0, 0, api.CodeTooMany} {
		k.step(0, did(1, 1, api.OpSnapshot, code))
	}
	k.b.Out(1, wide)
	// Another connection has its own.
	k.ask(2, id(3, subscribe("t", 0)), did(2, 1, api.OpSubscribe, api.CodeOK))
	// A position that may not be is told first.
	k.answered(1, 1, subscribe("t", 1), api.Response{Code: api.CodeBeyond})
	// When one has ended there is room.
	k.answered(1, 0, api.Request{Op: api.OpUnsubscribe, Number: 5}, api.Response{})
	k.ask(1, id(30, subscribe("t", 0)), did(1, 1, api.OpSubscribe, api.CodeOK))
}

// 20.11: OpSnapshot
func TestSnapshot(t *testing.T) {
	k := served(t, 1, "t")
	for _, key := range []string{"b", "ab", "a", "c", "ac"} {
		k.write(1, 1, "t", key, "v"+key)
	}
	k.ask(1, remove("t", "c"), did(1, 1, api.OpDelete, -1))
	k.commit(1)
	k.write(1, 1, "t", "a", "pending")
	k.b.Out(1, wide)
	for i, c := range []struct {
		prefix string
		recs   []api.Record
	}{
		{"", []api.Record{value(2, "a", "va"), value(1, "ab", "vab"), value(4, "ac", "vac"), value(0, "b", "vb")}},
		{"a", []api.Record{value(2, "a", "va"), value(1, "ab", "vab"), value(4, "ac", "vac")}},
		{"ab", []api.Record{value(1, "ab", "vab")}},
		{"c", nil},
		{strings.Repeat("x", 64), nil},
	} {
		n := uint32(i)
		k.ask(1, id(n, snapshot("t", c.prefix)), did(1, 1, api.OpSnapshot, api.CodeOK))
		k.hear(1, api.Response{Id: n, Op: api.OpSnapshot, Offset: 6, Number: 1})
		if i == 0 { // what comes behind its moment is not seen
			k.commit(1)
			k.b.Out(1, wide)
			k.write(1, 1, "t", "a", "va")
			k.b.Out(1, wide)
		}
		k.step(api.ClDeliver, delivered(1, len(c.recs)))
		if i == 0 {
			k.hear(1, api.Response{Id: n, Op: api.OpDeliver, Offset: 6, Records: c.recs})
			break
		}
	}
	k.commit(1)
	k.rest()
	k.b.Out(1, wide)
	for i, prefix := range []string{"a", "ab", "c"} {
		recs := [][]api.Record{{value(7, "a", "va"), value(1, "ab", "vab"), value(4, "ac", "vac")}, {value(1, "ab", "vab")}, nil}[i]
		k.answered(1, 1, snapshot("t", prefix), api.Response{Offset: 8, Number: 1})
		k.step(api.ClDeliver, delivered(1, len(recs)))
		k.hear(1, api.Response{Id: 77, Op: api.OpDeliver, Offset: 8, Records: recs})
	}
	k.rest()
}

// 20.11: OpUnsubscribe
func TestUnsubscribe(t *testing.T) {
	k := served(t, 2, "t")
	leave := func(conn int, n int64, code int) {
		t.Helper()
		k.answered(conn, 0, api.Request{Op: api.OpUnsubscribe, Number: n}, api.Response{Code: code})
	}
	for _, n := range []int64{0, 1, math.MaxUint32, math.MaxUint32 + 1, math.MaxUint32 + 8, math.MaxInt64} {
		leave(1, n, api.CodeNoSuch)
	}
	k.write(1, 1, "t", "a", "1")
	k.commit(1)
	k.b.Out(1, wide)
	for _, n := range []uint32{0, 7, math.MaxUint32} {
		k.ask(1, id(n, subscribe("t", 0)), did(1, 1, api.OpSubscribe, api.CodeOK))
		k.b.Out(1, wide)
		leave(1, int64(n)+1<<32, api.CodeNoSuch)
		leave(2, int64(n), api.CodeNoSuch)
		leave(1, int64(n), api.CodeOK)
		leave(1, int64(n), api.CodeNoSuch)
		k.rest()
	}
	k.ask(1, id(3, snapshot("t", "")), did(1, 1, api.OpSnapshot, api.CodeOK))
	k.b.Out(1, wide)
	leave(1, 3, api.CodeOK)
	k.rest()
}

// 20.11: OpJoin, OpCommit, OpPosition
func TestGroups(t *testing.T) {
	k := served(t, 1, "t", "u")
	for _, name := range []string{"", "G", "a.b", strings.Repeat("g", 25)} {
		k.answered(1, 0, join(name), api.Response{Code: api.CodeBadRequest})
		k.answered(1, 1, reach(name, "t", 1, 0), api.Response{Code: api.CodeBadRequest})
		k.answered(1, 1, position(name, "t"), api.Response{Code: api.CodeBadRequest})
	}
	k.answered(1, 1, reach("g", "t", 1, 0), api.Response{Code: api.CodeNoSuch}) // nobody has joined
	k.answered(1, 1, position("g", "t"), api.Response{Code: api.CodeNoSuch})
	k.write(1, 1, "t", "a", "1")
	k.write(1, 1, "t", "b", "2")
	k.commit(1)
	k.b.Out(1, wide)
	k.ask(1, id(1, join("g")), did(1, 0, api.OpJoin, -1))
	for _, gen := range []int64{0, 2, math.MaxInt64} {
		k.answered(1, 1, reach("g", "t", gen, 0), api.Response{Code: api.CodeSequence})
	}
	k.ask(1, id(2, reach("g", "t", 1, 2)), did(1, 1, api.OpCommit, -1)) // at its end
	for _, at := range []int64{3, 4, math.MaxInt64} {
		k.answered(1, 1, reach("g", "t", 1, at), api.Response{Code: api.CodeBeyond})
		k.answered(1, 1, reach("", "t", 9, at), api.Response{Code: api.CodeBeyond}) // that is told first
	}
	k.write(1, 1, "t", "c", "3")
	k.answered(1, 1, reach("g", "t", 1, 3), api.Response{Code: api.CodeBeyond}) // what is pending does not count
	k.answered(1, 1, position("g", "t"), api.Response{Code: api.CodeNoSuch})    // it is pending
	k.commit(2)
	k.hear(1, api.Response{Id: 1, Op: api.OpJoin, Number: 1}, answer(2, api.OpCommit, api.CodeOK), api.Response{Op: api.OpPut, Offset: 2})
	k.answered(1, 1, position("g", "t"), api.Response{Offset: 2})
	k.answered(1, 2, position("g", "u"), api.Response{Code: api.CodeNoSuch})
	k.ask(1, id(3, reach("g", "t", 1, 0)), did(1, 1, api.OpCommit, -1)) // it may go back
	k.answered(1, 1, position("g", "t"), api.Response{Offset: 2})
	k.ask(1, id(4, join("g")), did(1, 0, api.OpJoin, -1))
	k.answered(1, 1, reach("g", "t", 1, 1), api.Response{Code: api.CodeSequence}) // an older generation
	k.ask(1, id(5, reach("g", "u", 2, 0)), did(1, 2, api.OpCommit, -1))
	k.commit(1)
	k.hear(1, answer(3, api.OpCommit, api.CodeOK), api.Response{Id: 4, Op: api.OpJoin, Number: 2}, answer(5, api.OpCommit, api.CodeOK))
	k.answered(1, 1, position("g", "t"), api.Response{})
	k.answered(1, 2, position("g", "u"), api.Response{})
	k.rest()
}

// 20.11: OpStat
func TestStat(t *testing.T) {
	k := served(t, 1, "t", "u")
	k.answered(1, 2, stat("u"), api.Response{})
	k.write(1, 1, "t", "a", bulk(1))
	k.answered(1, 1, stat("t"), api.Response{})
	k.commit(1)
	k.b.Out(1, wide)
	k.answered(1, 1, stat("t"), api.Response{Offset: 1})
	k.ask(1, remove("t", "a"), did(1, 1, api.OpDelete, -1))
	k.fill(1, 1, "t", "k", 6)
	k.now = 200 // the tombstone is old
	for k.b.State().Merges > 0 || k.b.Topics()[0].Segs > 2 {
		k.b.Step(k.now, api.ClMerge)
	}
	k.answered(1, 1, stat("t"), api.Response{Offset: 8, Number: 2})
	// Who begins ahead of the mark may have missed the tombstone.
	k.answered(1, 1, replay("t", 1), api.Response{Code: api.CodeHorizonPassed})
	k.answered(1, 1, subscribe("t", 1), api.Response{Code: api.CodeHorizonPassed})
	k.answered(1, 1, subscribe("t", 2), api.Response{Offset: 2, Number: 1})
	k.ask(1, id(78, subscribe("t", 0)), did(1, 1, api.OpSubscribe, api.CodeOK))
}

// owing is a store with the topic t, whose segment's file has another name for a while: what is pending there can't be committed, and is owed as often as its producer says it again. So many answers are owed to the connection 1; the group g has the generation 1.
func owing(t *testing.T, n int) *desk {
	t.Helper()
	k := served(t, 2, "t")
	k.ask(2, join("g"), did(2, 0, api.OpJoin, -1))
	k.settle(2)
	k.ask(2, by(5, 1, put("t", "k", "v")), did(2, 1, api.OpPut, -1))
	want(t, "Rename", k.d.Rename("t1.1.seg", "away"), api.OK)
	for range n {
		k.ask(1, by(5, 1, put("t", "k", "v")), did(1, 1, api.OpPut, -1))
	}
	k.hear(1)
	return k
}

// 20.11: MaxOwed answers, and one more.
func TestTooManyAnswersOwed(t *testing.T) {
	for _, c := range []struct {
		r     api.Request
		about int
	}{
		{by(5, 1, put("t", "k", "v")), 1}, {by(5, 1, remove("t", "k")), 1}, {join("g"), 0}, {reach("g", "t", 1, 0), 1},
	} {
		k := owing(t, maxOwed-1)
		k.ask(1, id(8, c.r), did(1, c.about, c.r.Op, -1)) // the last one
		k = owing(t, maxOwed)
		pending := k.b.State().Pending
		undone(t, "one more", k.d, func() { k.answered(1, c.about, c.r, api.Response{Code: api.CodeTooMany}) })
		want(t, "one more: pending", k.b.State().Pending, pending)
		// What else is asked is answered.
		k.answered(1, 0, ping(), api.Response{})
		k.answered(1, 1, reach("g", "t", 1, 1), api.Response{Code: api.CodeBeyond})
		k.answered(1, 0, put("u", "", ""), api.Response{Code: api.CodeNoTopic})
		k.answered(1, 1, position("g", "t"), api.Response{Code: api.CodeNoSuch})
		k.ask(2, c.r, did(2, c.about, c.r.Op, -1))
		// A commit that is refused is none.
		if c.r.Op == api.OpPut || c.r.Op == api.OpDelete {
			k.commit(0)
		}
		want(t, "Rename", k.d.Rename("away", "t1.1.seg"), api.OK)
		k.commit(k.b.State().Pending) // one in each topic that has some
		list, _ := read(k.all(1))
		want(t, "sent", len(list), maxOwed)
		if c.r.Op == api.OpPut || c.r.Op == api.OpDelete { // it is committed: nothing has to be owed
			k.answered(1, c.about, c.r, api.Response{})
			continue
		}
		k.ask(1, c.r, did(1, c.about, c.r.Op, -1))
	}
}

// all is all that a client is sent.
func (k *desk) all(conn int) []byte {
	k.t.Helper()
	b, e := k.b.Out(conn, math.MaxInt)
	want(k.t, "Out", e, api.OK)
	return b
}
