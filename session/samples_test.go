package session_test

import (
	"bytes"
	"fmt"
	"math"
	"slices"
	"strings"
	"testing"

	"chronicle/api"
	"chronicle/cursor"
	"chronicle/manifest"
	"chronicle/merge"
	"chronicle/probe"
	"chronicle/session"
	"chronicle/simfs"
	"chronicle/topic"
	"chronicle/wire"
)

// The document's numbers.
const (
	maxFrame  = 4096
	maxInbox  = 64
	maxOutbox = 65536
	maxSubs   = 8
	maxSnaps  = 4
	maxOwed   = 256
	lastId    = math.MaxUint32
)

func join(parts ...[]byte) []byte { return slices.Concat(parts...) }

// ask is the frame of a request.
func ask(t *testing.T, r api.Request) []byte {
	t.Helper()
	b, e := wire.EncodeRequest(r)
	if e != api.OK {
		t.Fatalf("EncodeRequest(%v): %d", r, e)
	}
	return b
}

// stat is a request that has its number in its id, and in its topic's name.
func stat(id int) api.Request {
	return api.Request{Id: uint32(id), Op: api.OpStat, Topic: fmt.Sprint("t", id)}
}

// stats is the frames of such requests, with the ids from .. end-1.
func stats(t *testing.T, from, end int) []byte {
	t.Helper()
	var b []byte
	for id := from; id < end; id++ {
		b = append(b, ask(t, stat(id))...)
	}
	return b
}

// requests is a request of each operation, with all that it may have.
func requests() []api.Request {
	long := strings.Repeat("k", api.MaxKey)
	name := strings.Repeat("n", api.MaxTopic)
	return []api.Request{
		{Id: 1, Op: api.OpPing},
		{Id: 2, Op: api.OpCreate, Topic: name, Number: math.MaxInt64},
		{Id: 3, Op: api.OpDrop, Topic: "t"},
		{Id: 4, Op: api.OpList, Key: long},
		{Id: lastId, Op: api.OpPut, Topic: name, Key: long, Value: probe.Text(1, api.MaxValue), Pid: math.MaxInt64, Seq: math.MaxInt64},
		{Id: 300, Op: api.OpDelete, Topic: "t", Key: "\x00\xff", Pid: 7, Seq: 1 << 40},
		{Id: 0, Op: api.OpGet, Topic: "t", Key: "k"},
		{Id: 0, Op: api.OpReplay, Topic: "t", Offset: 5},
		{Id: 9, Op: api.OpSnapshot, Topic: "t", Key: "user/"},
		{Id: 10, Op: api.OpSubscribe, Topic: "t", Offset: math.MaxInt64},
		{Id: 11, Op: api.OpUnsubscribe, Number: 10},
		{Id: 12, Op: api.OpJoin, Key: "g"},
		{Id: 13, Op: api.OpCommit, Topic: "t", Key: "g", Offset: 1, Number: 2},
		{Id: 14, Op: api.OpPosition, Topic: "t", Key: "g"},
		{Id: 15, Op: api.OpStat},
	}
}

// frameOf is the frame of any body.
func frameOf(t *testing.T, body string) []byte {
	t.Helper()
	b, e := wire.Frame([]byte(body))
	if e != api.OK {
		t.Fatalf("Frame of %d bytes: %d", len(body), e)
	}
	return b
}

// bodyOf is the body of a frame.
func bodyOf(frame []byte) string { return string(frame[9:]) }

// other is bytes of which one is another one.
func other(b []byte, at int) []byte {
	b = bytes.Clone(b)
	b[at] ^= 1
	return b
}

// noRequests is frames that are right, and none of a request.
func noRequests(t *testing.T) map[string][]byte {
	t.Helper()
	get := bodyOf(ask(t, api.Request{Id: 7, Op: api.OpGet, Topic: "t", Key: "k"}))
	return map[string][]byte{
		"a zero":              frameOf(t, "\x00"),
		"a response":          frames(t, api.Response{Id: 7, Op: api.OpGet}),
		"a byte more":         frameOf(t, get+"\x00"),
		"a byte less":         frameOf(t, get[:len(get)-1]),
		"another mark":        frameOf(t, "\x52"+get[1:]),
		"no operation":        frameOf(t, "\x51\x00\x07"),
		"one above":           frameOf(t, "\x51\x10\x07"),
		"a delivery":          frameOf(t, "\x51\x40\x07"),
		"an id above 32 bits": frameOf(t, "\x51\x01\xff\xff\xff\xff\x7f"),
		"a long topic":        frameOf(t, "\x51\x03\x07\x19"+strings.Repeat("t", 25)),
		"as long as may be":   frameOf(t, strings.Repeat("\x51", maxFrame-9)),
	}
}

// frames is the frames of responses, one behind the other.
func frames(t *testing.T, list ...api.Response) []byte {
	t.Helper()
	var all []byte
	for _, r := range list {
		b, e := wire.EncodeResponse(r)
		if e != api.OK {
			t.Fatalf("EncodeResponse(%.300v): %d", r, e)
		}
		all = append(all, b...)
	}
	return all
}

// complaint is what is sent of what nobody understands.
func complaint() api.Response { return api.Response{Op: 1, Code: 1} }

// tooMany is what a request is answered that has no room in the inbox.
func tooMany(r api.Request) api.Response { return api.Response{Id: r.Id, Op: r.Op, Code: 9} }

// full is a response that has all that one may have.
func full(id uint32) api.Response {
	return api.Response{
		Id: id, Op: api.OpGet, Code: api.CodeExists, Offset: -5, Number: 1 << 50, More: true,
		Names:   []string{"alpha", "", "beta"},
		Records: []api.Record{value(1, 2, "k", "v"), tomb(3, 4, "l")},
	}
}

// wrongResponses is responses that may not be, and why.
func wrongResponses() map[api.Errno][]api.Response {
	wide := make([]api.Record, 4)
	for i := range wide {
		wide[i] = value(int64(i), 0, "k", probe.Text(uint64(i), api.MaxValue))
	}
	return map[api.Errno][]api.Response{
		api.ErrResponse: {
			{},
			{Op: 16}, {Op: -1}, {Op: 63}, {Op: 65},
			{Op: 1, Code: 12}, {Op: 1, Code: -1},
			{Op: 1, Names: make([]string, 17)},
			{Op: 1, Names: []string{strings.Repeat("n", 25)}},
			{Op: 1, Records: []api.Record{{}}},
			{Op: 1, Records: []api.Record{value(1, 1, "", "v")}},
		},
		api.ErrHuge: {
			{Op: 64, Records: wide},
			{Op: 1, Records: slices.Repeat([]api.Record{tomb(0, 0, "k")}, 500)},
		},
	}
}

// value is a value of a key.
func value(off, time int64, key, text string) api.Record {
	return api.Record{Kind: api.KValue, Offset: off, Time: time, Key: key, Value: text}
}

// tomb is a key's tombstone.
func tomb(off, time int64, key string) api.Record {
	return api.Record{Kind: api.KTombstone, Offset: off, Time: time, Key: key}
}

// made is a new topic with the limit 4096 and the horizon 5, at the time 0, on a disk of its own.
func made(t *testing.T) (*simfs.Disk, *topic.Topic) {
	t.Helper()
	d, _ := simfs.New(1 << 24)
	p, e := topic.Create(d, 3, 4096, 5, 0)
	if p == nil || e != api.OK {
		t.Fatalf("Create: %v, %d", p, e)
	}
	return d, p
}

// add appends records that have to be taken, and commits them.
func add(t *testing.T, p *topic.Topic, recs ...api.Record) {
	t.Helper()
	for _, r := range recs {
		w := api.Write{Key: r.Key, Value: r.Value, Tombstone: r.Kind == api.KTombstone, Pid: r.Pid, Seq: r.Seq}
		if off, again, e := p.Append(r.Time, w); off != r.Offset || again || e != api.OK {
			t.Fatalf("Append of %.100v: %d, %t, %d", r, off, again, e)
		}
	}
	want(t, "Commit", p.Commit(), api.OK)
}

// holding is such a topic with records.
func holding(t *testing.T, recs ...api.Record) *topic.Topic {
	t.Helper()
	_, p := made(t)
	add(t, p, recs...)
	return p
}

// two is the log of the document's examples.
func two() []api.Record { return []api.Record{value(0, 1, "a", "1"), value(1, 2, "b", "2")} }

// bulky is so many records of which just three have room in one delivery.
func bulky(n int) []api.Record {
	var recs []api.Record
	for i := range n {
		recs = append(recs, value(int64(i), 0, fmt.Sprintf("%03d", i), probe.Text(uint64(i), 1000)))
	}
	return recs
}

// beyond is a topic whose next record has a great offset and a great time.
func beyond(t *testing.T, next, clock int64) *topic.Topic {
	t.Helper()
	d, _ := made(t)
	m, e := manifest.Load(d, 3)
	want(t, "Load", e, api.OK)
	m.Next, m.Clock = next, clock
	want(t, "Save", manifest.Save(d, m), api.OK)
	p, e := topic.Open(d, 3, 4096, 5, 0)
	if p == nil || e != api.OK {
		t.Fatalf("Open: %v, %d", p, e)
	}
	return p
}

// compact seals all that there is, and merges it at a time.
func compact(t *testing.T, p *topic.Topic, now int64) {
	t.Helper()
	want(t, "Roll", p.Roll(), api.OK)
	m, e := merge.Start(p)
	want(t, "Start", e, api.OK)
	for !m.Over() {
		if _, e := m.Step(now); e != api.OK {
			t.Fatalf("Step: %d", e)
		}
	}
}

// unpower takes a disk's power away.
func unpower(t *testing.T, d *simfs.Disk) {
	t.Helper()
	d.Fuse(0)
	want(t, "SyncDir", d.SyncDir(), api.ErrDead)
}

func replay(t *testing.T, p *topic.Topic, from int64) *cursor.Cursor {
	t.Helper()
	c, e := cursor.Replay(p, from)
	want(t, "Replay", e, api.OK)
	return c
}

func tail(t *testing.T, p *topic.Topic, from int64) *cursor.Cursor {
	t.Helper()
	c, e := cursor.Tail(p, from)
	want(t, "Tail", e, api.OK)
	return c
}

func snapshot(t *testing.T, p *topic.Topic) *cursor.Snap {
	t.Helper()
	s, e := cursor.Snapshot(p)
	want(t, "Snapshot", e, api.OK)
	return s
}

// subscribe and hold begin readers that have to begin, of the topic 3.
func subscribe(t *testing.T, s *session.Session, id uint32, c *cursor.Cursor) {
	t.Helper()
	want(t, fmt.Sprint("Subscribe of ", id), s.Subscribe(id, 3, c), api.OK)
}

func hold(t *testing.T, s *session.Session, id uint32, p *cursor.Snap) {
	t.Helper()
	want(t, fmt.Sprint("Hold of ", id), s.Hold(id, 3, p), api.OK)
}

// delivery is a delivery that tells records up to a position.
func delivery(id uint32, offset int64, more bool, recs ...api.Record) api.Response {
	return api.Response{Id: id, Op: 64, Offset: offset, More: more, Records: recs}
}

// ended is a delivery that tells of a reader that ends for a reason.
func ended(id uint32, code int) api.Response { return api.Response{Id: id, Op: 64, Code: code} }

// fill brings the outbox to just so many bytes.
func fill(t *testing.T, s *session.Session, n int) {
	t.Helper()
	for s.State().Outbox < n {
		want(t, "Send", s.Send(full(7)), api.OK)
	}
	s.Out(s.State().Outbox - n)
	want(t, "bytes that wait", s.State().Outbox, n)
}

// wantOut fails unless what waits for the client is just the frames of these responses; it is taken.
func wantOut(t *testing.T, what string, s *session.Session, list ...api.Response) {
	t.Helper()
	got, wanted := s.Out(math.MaxInt), frames(t, list...)
	if !bytes.Equal(got, wanted) {
		t.Errorf("%s: %s is sent, want %s", what, told(got), told(wanted))
	}
}

// told tells the responses whose frames stand one behind the other.
func told(b []byte) string {
	list, rest := read(b)
	text := ""
	for _, r := range list {
		text += fmt.Sprintf("{id %d, op %d, code %d, offset %d, number %d, more %t, names %q, records", r.Id, r.Op, r.Code, r.Offset, r.Number, r.More, r.Names)
		for _, x := range r.Records {
			text += fmt.Sprintf(" %d: %d at %d, %.9q: %.9q of %d", x.Offset, x.Kind, x.Time, x.Key, x.Value, len(x.Value))
		}
		text += "} "
	}
	return fmt.Sprintf("%.900s and %d bytes", text, len(rest))
}

// read is the responses whose frames stand one behind the other, and what stands behind them.
func read(b []byte) ([]api.Response, []byte) {
	var list []api.Response
	for {
		n, e := wire.Head(b)
		if e != api.OK || n > len(b) {
			return list, b
		}
		r, e := wire.DecodeResponse(b[:n])
		if e != api.OK {
			return list, b
		}
		list = append(list, r)
		b = b[n:]
	}
}

// want fails if an answer is another one than is wanted.
func want[T comparable](t *testing.T, what string, got, wanted T) {
	t.Helper()
	if got != wanted {
		t.Errorf("%s: %v, want %v", what, got, wanted)
	}
}

func wantList[T comparable](t *testing.T, what string, got, wanted []T) {
	t.Helper()
	if !slices.Equal(got, wanted) {
		t.Errorf("%s: %.600v, want %.600v", what, got, wanted)
	}
}
