package mirror_test

import (
	"bytes"
	"encoding/binary"
	"fmt"
	"slices"
	"strings"
	"testing"

	"chronicle/api"
	"chronicle/merge"
	"chronicle/mirror"
	"chronicle/probe"
	"chronicle/simfs"
	"chronicle/topic"
	"chronicle/wire"
)

// The document's numbers, and those of the mirror of most of these tests.
const (
	lastId    = 1<<30 - 1 // the greatest number of a topic
	maxOffset = 1 << 40
	lastTime  = 1<<50 - 1
	wide      = 1 << 22 // bytes of a disk that has room
	copyId    = 3
	notesId   = 4
	usual     = 65536 // bytes of a segment
)

// desk is a mirror of "t" that is tried, over its disk, at a time.
type desk struct {
	t     *testing.T
	d     *simfs.Disk
	m     *mirror.Mirror
	limit int
	now   int64
}

// fresh is a mirror on an empty disk.
func fresh(t *testing.T) *desk {
	t.Helper()
	return limited(t, usual)
}

func limited(t *testing.T, limit int) *desk {
	t.Helper()
	d, _ := simfs.New(wide)
	return over(t, d, limit)
}

// over is the mirror of a disk.
func over(t *testing.T, d *simfs.Disk, limit int) *desk {
	t.Helper()
	m, e := mirror.Open(d, "t", copyId, limit, 0)
	if m == nil || e != api.OK {
		t.Fatalf("Open: %v, %d", m, e)
	}
	return &desk{t: t, d: d, m: m, limit: limit}
}

// again is the mirror that is opened over what a crash leaves that leaves the least.
func (k *desk) again() *desk {
	k.t.Helper()
	return over(k.t, loaded(k.t, k.d.Crash(nil)), k.limit)
}

// loaded is a disk of an image, all of it durable.
func loaded(t *testing.T, image []api.File) *simfs.Disk {
	t.Helper()
	d, e := simfs.Load(image, wide)
	if e != api.OK {
		t.Fatalf("Load: %d", e)
	}
	return d
}

// unpowered takes a disk's power away.
func unpowered(t *testing.T, d *simfs.Disk) *simfs.Disk {
	t.Helper()
	d.Fuse(0)
	want(t, "SyncDir", d.SyncDir(), api.ErrDead)
	return d
}

// asks fails unless this is what is asked now, just once.
func (k *desk) asks(what string, r api.Request) {
	k.t.Helper()
	b, e := wire.EncodeRequest(r)
	want(k.t, what+": EncodeRequest", e, api.OK)
	if got := k.m.Ask(); !bytes.Equal(got, b) {
		k.t.Errorf("%s: Ask: %x, want %x", what, got, b)
	}
	k.asksNothing(what)
}

func (k *desk) asksNothing(what string) {
	k.t.Helper()
	for range 2 {
		want(k.t, what+": Ask tells nothing", fmt.Sprintf("%x", k.m.Ask()), "")
	}
}

// tails fails unless a subscription is asked for, snaps unless a snapshot is.
func (k *desk) tails(what string, id uint32, position int64) {
	k.t.Helper()
	k.asks(what, api.Request{Id: id, Op: api.OpSubscribe, Topic: "t", Offset: position})
}

func (k *desk) snaps(what string, id uint32) {
	k.t.Helper()
	k.asks(what, api.Request{Id: id, Op: api.OpSnapshot, Topic: "t"})
}

// hears hands responses over, all at once.
func (k *desk) hears(what string, e api.Errno, list ...api.Response) {
	k.t.Helper()
	want(k.t, what+": Hear", k.m.Hear(k.now, frames(k.t, list...)), e)
}

// wantState fails unless these are its numbers.
func (k *desk) wantState(what string, state int, position int64, keys, pending int) {
	k.t.Helper()
	want(k.t, what+": State", k.m.State(), api.MirState{State: state, Position: position, Keys: keys, Pending: pending})
}

// commits commits, which has to go well.
func (k *desk) commits(what string) {
	k.t.Helper()
	want(k.t, what+": Commit", k.m.Commit(), api.OK)
}

// wantPairs fails unless these are its pairs, as a=1 b=2.
func (k *desk) wantPairs(what, pairs string) {
	k.t.Helper()
	want(k.t, what+": Pairs", textOf(k.m.Pairs()), pairs)
}

// holds commits, and fails unless these are its pairs behind that.
func (k *desk) holds(what, pairs string) {
	k.t.Helper()
	k.commits(what)
	k.wantPairs(what, pairs)
}

// wantCopy fails unless the copy has just these records, by their keys and values.
func (k *desk) wantCopy(what string, recs ...api.Record) {
	k.t.Helper()
	got, e := k.m.Topic().Records()
	want(k.t, what+": Records", e, api.OK)
	wantList(k.t, what+": Records", told(got), told(recs))
}

// told is what records say, but not where and when.
func told(recs []api.Record) []api.Record {
	recs = slices.Clone(recs)
	for i, r := range recs {
		recs[i] = api.Record{Kind: r.Kind, Pid: r.Pid, Seq: r.Seq, Key: r.Key, Value: r.Value}
	}
	return recs
}

// wantNotes fails unless the notes that are seen on the disk are such a place's, pending or not.
func (k *desk) wantNotes(what string, number, position int64) {
	k.t.Helper()
	want(k.t, what+": the note at", noteOf(k.t, k.d.Image(), "at"), placed(number, position))
	want(k.t, what+": the note source", noteOf(k.t, k.d.Image(), "source"), "t")
}

// wantNoPlace fails if a place is noted.
func (k *desk) wantNoPlace(what string) {
	k.t.Helper()
	want(k.t, what+": the note at", noteOf(k.t, k.d.Image(), "at"), "none")
}

// noteOf is a note that lives in an image; "none", if none does.
func noteOf(t *testing.T, image []api.File, key string) string {
	t.Helper()
	notes, e := topic.Open(loaded(t, image), notesId, usual, 0, 0)
	want(t, "Open of the notes", e, api.OK)
	r, lives, e := notes.Get(key)
	want(t, "Get of the note "+key, e, api.OK)
	if !lives {
		return "none"
	}
	return r.Value
}

// placed is the note of a place.
func placed(number, position int64) string {
	return string(binary.AppendUvarint(binary.AppendUvarint(nil, uint64(number)), uint64(position)))
}

// noted lays notes down on a disk: keys, each with its value; "-" is a tombstone.
func noted(t *testing.T, d *simfs.Disk, notes ...string) {
	t.Helper()
	writes(t, d, notesId, notes...)
}

// writes appends records to a topic of a disk, which is made if it is not there.
func writes(t *testing.T, d *simfs.Disk, id int, list ...string) {
	t.Helper()
	p, e := topic.Open(d, id, usual, 0, 0)
	if e == api.ErrTopic {
		p, e = topic.Create(d, id, usual, 0, 0)
	}
	want(t, "a topic", e, api.OK)
	for i := 0; i < len(list); i += 2 {
		w := api.Write{Key: list[i], Value: list[i+1]}
		if w.Value == "-" {
			w.Value, w.Tombstone = "", true
		}
		_, _, e := p.Append(0, w)
		want(t, "Append", e, api.OK)
	}
	want(t, "Commit", p.Commit(), api.OK)
}

// merged merges all that is sealed of a topic.
func merged(t *testing.T, p *topic.Topic, now int64) {
	t.Helper()
	m, e := merge.Start(p)
	want(t, "merge.Start", e, api.OK)
	for !m.Over() {
		_, e := m.Step(now)
		want(t, "merge.Step", e, api.OK)
	}
}

// stepped merges all that is sealed of a topic, as far as the power lasts.
func stepped(p *topic.Topic) {
	for m, _ := merge.Start(p); !m.Over(); {
		m.Step(0)
	}
}

// frames is the bytes of responses, one behind the other.
func frames(t *testing.T, list ...api.Response) []byte {
	t.Helper()
	var all []byte
	for _, r := range list {
		b, e := wire.EncodeResponse(r)
		if e != api.OK {
			t.Fatalf("EncodeResponse(%+v): %d", r, e)
		}
		all = append(all, b...)
	}
	return all
}

// subscribed answers a subscription, snapped the request of a snapshot.
func subscribed(id uint32, position, number int64) api.Response {
	return api.Response{Id: id, Op: api.OpSubscribe, Offset: position, Number: number}
}

func snapped(id uint32, moment, number int64) api.Response {
	return api.Response{Id: id, Op: api.OpSnapshot, Offset: moment, Number: number}
}

// delivered is a delivery that has others behind it, final one that has none.
func delivered(id uint32, offset int64, recs ...api.Record) api.Response {
	return api.Response{Id: id, Op: api.OpDeliver, Offset: offset, More: true, Records: recs}
}

func final(id uint32, offset int64, recs ...api.Record) api.Response {
	r := delivered(id, offset, recs...)
	r.More = false
	return r
}

func refused(id uint32, op, code int) api.Response {
	return api.Response{Id: id, Op: op, Code: code}
}

// value and tomb are records at the time 0.
func value(off int64, key, text string) api.Record {
	return api.Record{Kind: api.KValue, Offset: off, Key: key, Value: text}
}

func tomb(off int64, key string) api.Record {
	return api.Record{Kind: api.KTombstone, Offset: off, Key: key}
}

// bulk is a value that makes a record of more than half a segment of 256 bytes.
func bulk(n int) string { return probe.Text(uint64(n), 150) }

// textOf tells pairs as a=1 b=2.
func textOf(list []api.Pair) string {
	var all []string
	for _, p := range list {
		text := p.Key + "=" + p.Value
		if p.Off != 0 || p.Time != 0 {
			text += fmt.Sprint(" with ", p.Off, " and ", p.Time)
		}
		all = append(all, text)
	}
	return strings.Join(all, " ")
}

// want fails if an answer is another one than is wanted.
func want[T comparable](t *testing.T, what string, got, wanted T) {
	t.Helper()
	if got != wanted {
		t.Errorf("%s: %.500v, want %.500v", what, fmt.Sprintf("%+v", got), fmt.Sprintf("%+v", wanted))
	}
}

func wantList[T comparable](t *testing.T, what string, got, wanted []T) {
	t.Helper()
	if !slices.Equal(got, wanted) {
		t.Errorf("%s: %.600v, want %.600v", what, fmt.Sprintf("%+v", got), fmt.Sprintf("%+v", wanted))
	}
}

// alike fails unless the same lies on two disks, and a crash may leave the same of it.
func alike(t *testing.T, what string, d, other *simfs.Disk) {
	t.Helper()
	want(t, what+": operations", d.Ops(), other.Ops())
	want(t, what+": without power", d.Dead(), other.Dead())
	if probe.Key(d.Image()) != probe.Key(other.Image()) {
		t.Errorf("%s: the disks are not alike", what)
	}
	for _, picks := range [][]int{nil, {1, 1, 0, 3, 1, 5}, {3, 0, 2, 0, 9, 1, 1}} {
		if probe.Key(d.Crash(picks)) != probe.Key(other.Crash(picks)) {
			t.Errorf("%s: a crash does not leave the same", what)
		}
	}
}

// unchanged fails if a call changes what lies on a disk, or what a crash may leave of it.
func unchanged(t *testing.T, what string, d *simfs.Disk, call func()) {
	t.Helper()
	sight := func() string { return probe.Key(d.Image()) + "|" + probe.Key(d.Crash([]int{1, 1, 1, 1, 1, 1, 1})) }
	before := sight()
	call()
	want(t, what+": the disk is as it was", sight() == before, true)
}

// untouched fails if a call does any operation on a disk.
func untouched(t *testing.T, what string, d *simfs.Disk, call func()) {
	t.Helper()
	ops := d.Ops()
	unchanged(t, what, d, call)
	want(t, what+": operations", d.Ops(), ops)
}
