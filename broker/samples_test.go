package broker_test

import (
	"bytes"
	"fmt"
	"maps"
	"math"
	"slices"
	"testing"

	"chronicle/api"
	"chronicle/broker"
	"chronicle/probe"
	"chronicle/simfs"
	"chronicle/wire"
)

// The document's numbers.
const (
	maxConns = 16
	maxInbox = 64
	maxOwed  = 256
	patience = 16
	lastTime = 1<<50 - 1
	horizons = 1 << 40
	wide     = 1 << 22 // bytes of a disk that has room
)

// usual is the config of the chapter's examples.
func usual() api.Config { return api.Config{Limit: 256, Horizon: 100, Share: 50} }

// desk is a broker that is tried, over its disk, at a time.
type desk struct {
	t   *testing.T
	d   *simfs.Disk
	b   *broker.Broker
	cfg api.Config
	now int64
}

// store is a broker over a new store, without connections.
func store(t *testing.T, cfg api.Config) *desk {
	t.Helper()
	d, _ := simfs.New(wide)
	want(t, "Format", broker.Format(d, cfg, 0), api.OK)
	return over(t, d, cfg)
}

// over is a broker over the store of a disk.
func over(t *testing.T, d *simfs.Disk, cfg api.Config) *desk {
	t.Helper()
	b, e := broker.Open(d, cfg, 0)
	if b == nil || e != api.OK {
		t.Fatalf("Open: %v, %d", b, e)
	}
	return &desk{t: t, d: d, b: b, cfg: cfg}
}

// served is a broker with so many connections, and topics of these names, with the numbers from 1 on.
func served(t *testing.T, conns int, names ...string) *desk {
	t.Helper()
	k := store(t, usual())
	for i := range conns {
		want(t, "Connect", k.connect(), i+1)
	}
	for i, name := range names {
		k.ask(1, api.Request{Op: api.OpCreate, Topic: name}, did(1, i+1, api.OpCreate, api.CodeOK))
	}
	k.b.Out(1, wide)
	return k
}

func (k *desk) connect() int {
	k.t.Helper()
	n, e := k.b.Connect()
	want(k.t, "Connect", e, api.OK)
	return n
}

// frame is a request's bytes.
func frame(t *testing.T, r api.Request) []byte {
	t.Helper()
	b, e := wire.EncodeRequest(r)
	if e != api.OK {
		t.Fatalf("EncodeRequest(%s): %d", short(r), e)
	}
	return b
}

// say feeds requests, which have to join the inbox.
func (k *desk) say(conn int, list ...api.Request) {
	k.t.Helper()
	for _, r := range list {
		n, e := k.b.Feed(conn, frame(k.t, r))
		if n != 1 || e != api.OK {
			k.t.Fatalf("Feed of %s: %d, %d", short(r), n, e)
		}
	}
}

// step makes a step that has to do just this.
func (k *desk) step(pick int, wanted api.Did) {
	k.t.Helper()
	got, e := k.b.Step(k.now, pick)
	if got != wanted || e != api.OK {
		k.t.Errorf("Step(%d, %d): %+v, %d, want %+v", k.now, pick, got, e, wanted)
	}
}

// ask feeds a request, and serves it, which has to do just this. Ahead of it a class may have its turn that has waited long.
func (k *desk) ask(conn int, r api.Request, wanted api.Did) {
	k.t.Helper()
	k.say(conn, r)
	for range api.NumClasses {
		got, e := k.b.Step(k.now, api.ClRequest)
		if e == api.OK && got.What != api.DidRequest && got.What != api.DidNothing {
			continue
		}
		if got != wanted || e != api.OK {
			k.t.Errorf("a request: %+v, %d, want %+v", got, e, wanted)
		}
		return
	}
	k.t.Errorf("no request was served")
}

// settle commits all that waits for it, and takes all that a client is sent.
func (k *desk) settle(conn int) {
	k.t.Helper()
	for range api.NumClasses {
		if k.b.State().Pending > 0 {
			k.b.Step(k.now, api.ClCommit)
		}
	}
	want(k.t, "pending", k.b.State().Pending, 0)
	k.b.Out(conn, wide)
}

// commit makes a step that has to commit so many topics.
func (k *desk) commit(count int) {
	k.t.Helper()
	k.step(api.ClCommit, api.Did{What: api.DidCommit, Count: count})
}

// rest makes sure that nothing waits to be done.
func (k *desk) rest() {
	k.t.Helper()
	k.step(api.ClMerge, api.Did{What: api.DidNothing})
}

// answered asks, and hears the answer.
func (k *desk) answered(conn, about int, r api.Request, answer api.Response) {
	k.t.Helper()
	r.Id, answer.Id, answer.Op = 77, 77, r.Op
	k.ask(conn, r, did(conn, about, r.Op, answer.Code))
	k.hear(conn, answer)
}

// did is a step that has served a request.
func did(conn, topic, op, code int) api.Did {
	return api.Did{What: api.DidRequest, Conn: conn, Topic: topic, Kind: op, Code: code}
}

// merged is a step of a merge.
func merged(topic, kind int) api.Did { return api.Did{What: api.DidMerge, Topic: topic, Kind: kind} }

// delivered is a step that has delivered so many records.
func delivered(conn, count int) api.Did {
	return api.Did{What: api.DidDeliver, Conn: conn, Count: count}
}

// frames is the bytes of responses, one behind the other.
func frames(t *testing.T, list ...api.Response) []byte {
	t.Helper()
	var all []byte
	for _, r := range list {
		b, e := wire.EncodeResponse(r)
		if e != api.OK {
			t.Fatalf("EncodeResponse(%s): %d", short(r), e)
		}
		all = append(all, b...)
	}
	return all
}

// hear takes all that a client is sent, which has to be just these responses.
func (k *desk) hear(conn int, list ...api.Response) {
	k.t.Helper()
	got, e := k.b.Out(conn, math.MaxInt)
	if wanted := frames(k.t, list...); e != api.OK || !bytes.Equal(got, wanted) {
		k.t.Errorf("Out(%d): %s, %d, want %s", conn, tell(got), e, tell(wanted))
	}
}

// read is the responses whose frames stand one behind the other, and what stands behind them.
func read(b []byte) ([]api.Response, []byte) {
	var list []api.Response
	for {
		n, e := wire.Head(b)
		if e != api.OK || n > len(b) {
			return list, b
		}
		r, e := wire.DecodeResponse(b[:n])
		if e != api.OK {
			return list, b
		}
		list = append(list, r)
		b = b[n:]
	}
}

// tell tells the responses whose frames stand one behind the other.
func tell(b []byte) string {
	list, rest := read(b)
	text := ""
	for _, r := range list {
		text += fmt.Sprintf("{id %d, op %d, code %d, offset %d, number %d, more %t, names %q, records", r.Id, r.Op, r.Code, r.Offset, r.Number, r.More, r.Names)
		for _, x := range r.Records {
			text += fmt.Sprintf(" %d: %d at %d, %.9q: %.9q of %d", x.Offset, x.Kind, x.Time, x.Key, x.Value, len(x.Value))
		}
		text += "} "
	}
	return fmt.Sprintf("%.1200s and %d bytes", text, len(rest))
}

// put, remove and so on are requests.
func put(topic, key, value string) api.Request {
	return api.Request{Op: api.OpPut, Topic: topic, Key: key, Value: value}
}

func remove(topic, key string) api.Request {
	return api.Request{Op: api.OpDelete, Topic: topic, Key: key}
}

func by(pid, seq int64, r api.Request) api.Request {
	r.Pid, r.Seq = pid, seq
	return r
}

func id(n uint32, r api.Request) api.Request {
	r.Id = n
	return r
}

func create(topic string) api.Request { return api.Request{Op: api.OpCreate, Topic: topic} }

func drop(topic string) api.Request { return api.Request{Op: api.OpDrop, Topic: topic} }

func join(group string) api.Request { return api.Request{Op: api.OpJoin, Key: group} }

// reach commits a group's position.
func reach(group, topic string, gen, at int64) api.Request {
	return api.Request{Op: api.OpCommit, Key: group, Topic: topic, Number: gen, Offset: at}
}

func position(group, topic string) api.Request {
	return api.Request{Op: api.OpPosition, Key: group, Topic: topic}
}

func get(topic, key string) api.Request {
	return api.Request{Op: api.OpGet, Topic: topic, Key: key}
}

func replay(topic string, from int64) api.Request {
	return api.Request{Op: api.OpReplay, Topic: topic, Offset: from}
}

func subscribe(topic string, from int64) api.Request {
	return api.Request{Op: api.OpSubscribe, Topic: topic, Offset: from}
}

func snapshot(topic, prefix string) api.Request {
	return api.Request{Op: api.OpSnapshot, Topic: topic, Key: prefix}
}

func stat(topic string) api.Request { return api.Request{Op: api.OpStat, Topic: topic} }

func ping() api.Request { return api.Request{Op: api.OpPing} }

// answer is a response that tells a code, and nothing else but whose it is.
func answer(n uint32, op, code int) api.Response { return api.Response{Id: n, Op: op, Code: code} }

// value and tomb are records at the time 0.
func value(off int64, key, text string) api.Record {
	return api.Record{Kind: api.KValue, Offset: off, Key: key, Value: text}
}

func tomb(off int64, key string) api.Record {
	return api.Record{Kind: api.KTombstone, Offset: off, Key: key}
}

// bulk is a value of such a length that two such records fill a segment of 256 bytes.
func bulk(n int) string { return probe.Text(uint64(n), 90) }

// write puts a value that has to be taken, and is owed.
func (k *desk) write(conn, about int, topic, key, value string) {
	k.t.Helper()
	k.ask(conn, put(topic, key, value), did(conn, about, api.OpPut, -1))
}

// fill writes so many bulky records of a key to a topic, and commits them; all that is sent is taken.
func (k *desk) fill(conn, about int, topic, key string, n int) {
	k.t.Helper()
	for i := range n {
		k.write(conn, about, topic, key, bulk(i))
	}
	k.settle(conn)
}

// wantTopics fails unless these are the topics' names.
func (k *desk) wantTopics(what string, names ...string) {
	k.t.Helper()
	var got []string
	for _, info := range k.b.Topics() {
		got = append(got, info.Name)
	}
	wantList(k.t, what+": topics", got, names)
}

// wantRecords fails unless these are the records that are left of a topic.
func (k *desk) wantRecords(what, name string, recs ...api.Record) {
	k.t.Helper()
	got, e := k.b.Records(name)
	want(k.t, what+": Records("+name+")", e, api.OK)
	wantList(k.t, what+": Records("+name+")", got, recs)
}

func (k *desk) wantState(what string, conns, topics, pending, merges int) {
	k.t.Helper()
	want(k.t, what, k.b.State(), api.BrokerState{Conns: conns, Topics: topics, Pending: pending, Merges: merges})
}

// copied is a disk with all that is seen on another one, durable.
func copied(t *testing.T, d *simfs.Disk) *simfs.Disk {
	t.Helper()
	return loaded(t, d.Image())
}

func loaded(t *testing.T, image []api.File) *simfs.Disk {
	t.Helper()
	d, e := simfs.Load(image, wide)
	if e != api.OK {
		t.Fatalf("Load: %d", e)
	}
	return d
}

// files is what lies on a disk, by names.
type files map[string]string

func filesOf(image []api.File) files {
	f := files{}
	for _, one := range image {
		f[one.Name] = string(one.Data)
	}
	return f
}

func (f files) with(others files) files {
	all := maps.Clone(f)
	maps.Copy(all, others)
	return all
}

func (f files) names() []string { return slices.Sorted(maps.Keys(f)) }

func (f files) image() []api.File {
	var image []api.File
	for _, name := range f.names() {
		image = append(image, api.File{Name: name, Data: []byte(f[name])})
	}
	return image
}

// unpower takes a disk's power away.
func unpower(t *testing.T, d *simfs.Disk) {
	t.Helper()
	d.Fuse(0)
	want(t, "SyncDir", d.SyncDir(), api.ErrDead)
}

// alike fails unless the same lies on two disks, and a crash may leave the same of it.
func alike(t *testing.T, what string, d, other *simfs.Disk) {
	t.Helper()
	want(t, what+": operations", d.Ops(), other.Ops())
	want(t, what+": power", d.Dead(), other.Dead())
	if probe.Key(d.Image()) != probe.Key(other.Image()) {
		t.Errorf("%s: the disks are not alike: %q, %q", what, filesOf(d.Image()).names(), filesOf(other.Image()).names())
	}
	for _, picks := range [][]int{nil, {1, 1, 0, 3, 1, 5}, {3, 0, 2, 0, 9, 1, 1}} {
		if probe.Key(d.Crash(picks)) != probe.Key(other.Crash(picks)) {
			t.Errorf("%s: a crash does not leave the same", what)
		}
	}
}

// undone fails if a call changes anything on a disk.
func undone(t *testing.T, what string, d *simfs.Disk, call func()) {
	t.Helper()
	ops, key := d.Ops(), probe.Key(d.Image())
	call()
	want(t, what+": operations", d.Ops(), ops)
	if probe.Key(d.Image()) != key {
		t.Errorf("%s: the disk is changed", what)
	}
}

// want fails if an answer is another one than is wanted.
func want[T comparable](t *testing.T, what string, got, wanted T) {
	t.Helper()
	if got != wanted {
		t.Errorf("%s: %+v, want %+v", what, got, wanted)
	}
}

func wantList[T comparable](t *testing.T, what string, got, wanted []T) {
	t.Helper()
	if !slices.Equal(got, wanted) {
		t.Errorf("%s: %s, want %s", what, short(got), short(wanted))
	}
}

// short tells the first part of something.
func short(x any) string { return fmt.Sprintf("%.900s", fmt.Sprintf("%+q", fmt.Sprint(x))) }
