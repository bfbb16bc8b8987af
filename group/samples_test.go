package group_test

import (
	"fmt"
	"slices"
	"strings"
	"testing"

	"chronicle/api"
	"chronicle/group"
	"chronicle/merge"
	"chronicle/probe"
	"chronicle/record"
	"chronicle/simfs"
	"chronicle/topic"
)

// The greatest numbers that may be.
const (
	lastId   = 1<<30 - 1
	lastPos  = 1 << 40
	lastGen  = 1<<40 - 1
	lastTime = 1<<50 - 1
	reserve  = 4096
)

// long is the longest name.
const long = "abcdefghijklmnopqrstuvwx"

// created is a new topic with the number 0 and the horizon 5, on a disk of its own, at the time 0.
func created(t *testing.T, limit int) (*simfs.Disk, *topic.Topic) {
	t.Helper()
	d, _ := simfs.New(1 << 24)
	p, e := topic.Create(d, 0, limit, 5, 0)
	if p == nil || e != api.OK {
		t.Fatalf("topic.Create: %v, %d", p, e)
	}
	return d, p
}

// reopened is the topic that created made, opened over what is left of it.
func reopened(t *testing.T, image []api.File, limit int) (*simfs.Disk, *topic.Topic) {
	t.Helper()
	d, e := simfs.Load(image, 1<<24)
	want(t, "Load", e, api.OK)
	p, e := topic.Open(d, 0, limit, 5, 0)
	if p == nil || e != api.OK {
		t.Fatalf("topic.Open: %v, %d", p, e)
	}
	return d, p
}

// begun is the groups of a topic, which have to be read.
func begun(t *testing.T, p *topic.Topic) *group.Groups {
	t.Helper()
	g, e := group.New(p)
	if g == nil || e != api.OK {
		t.Fatalf("New: %v, %d", g, e)
	}
	return g
}

// none is the groups of a new topic, of which there are none yet.
func none(t *testing.T) (*simfs.Disk, *topic.Topic, *group.Groups) {
	t.Helper()
	d, p := created(t, 65536)
	return d, p, begun(t, p)
}

// put is a record of a value, gone a tombstone, as they are written.
func put(key, value string) api.Write { return api.Write{Key: key, Value: value} }

func gone(key string) api.Write { return api.Write{Key: key, Tombstone: true} }

// generation and position are records of the table.
func generation(name string, n int64) api.Write { return put("g."+name, number(n)) }

func position(name string, id int, n int64) api.Write {
	return put(fmt.Sprintf("p.%s.%d", name, id), number(n))
}

// number is a short number: seven bits a byte, the lowest first, and a bit more where another byte comes.
func number(n int64) string {
	var b []byte
	for ; n > 127; n /= 128 {
		b = append(b, byte(n%128)+128)
	}
	return string(append(b, byte(n)))
}

// laid is a topic with such records, which are committed.
func laid(t *testing.T, writes ...api.Write) (*simfs.Disk, *topic.Topic) {
	t.Helper()
	d, p := created(t, 65536)
	lay(t, p, writes...)
	want(t, "Commit", p.Commit(), api.OK)
	return d, p
}

// lay appends records that have to be taken.
func lay(t *testing.T, p *topic.Topic, writes ...api.Write) {
	t.Helper()
	for _, w := range writes {
		if _, again, e := p.Append(0, w); again || e != api.OK {
			t.Fatalf("Append of %q: %t, %d", w.Key, again, e)
		}
	}
}

// over is the groups that such records tell of.
func over(t *testing.T, writes ...api.Write) (*simfs.Disk, *topic.Topic, *group.Groups) {
	t.Helper()
	d, p := laid(t, writes...)
	return d, p, begun(t, p)
}

// texts is records as they would be written.
func texts(recs []api.Record) []api.Write {
	var list []api.Write
	for _, r := range recs {
		list = append(list, api.Write{Key: r.Key, Value: r.Value, Tombstone: r.Kind == api.KTombstone, Pid: r.Pid, Seq: r.Seq})
	}
	return list
}

// wantRecords fails unless just these records are committed, and left.
func wantRecords(t *testing.T, what string, p *topic.Topic, writes ...api.Write) {
	t.Helper()
	recs, e := p.Records()
	want(t, what+": Records", e, api.OK)
	wantList(t, what+": the records", texts(recs), writes)
}

// sizeOf is how many bytes a record has on the disk.
func sizeOf(w api.Write, offset, time int64) int {
	kind := api.KValue
	if w.Tombstone {
		kind = api.KTombstone
	}
	return record.Size(api.Record{Kind: kind, Offset: offset, Time: time, Key: w.Key, Value: w.Value})
}

// mergeAll merges a topic at a time, if there is something to merge.
func mergeAll(t *testing.T, p *topic.Topic, now int64) {
	t.Helper()
	m, e := merge.Start(p)
	if e == api.ErrNoMerge {
		return
	}
	want(t, "merge.Start", e, api.OK)
	for !m.Over() {
		if _, e := m.Step(now); e != api.OK {
			t.Fatalf("Step: %d", e)
		}
	}
}

// unpower takes a disk's power away.
func unpower(t *testing.T, d *simfs.Disk) {
	t.Helper()
	d.Fuse(0)
	want(t, "SyncDir", d.SyncDir(), api.ErrDead)
}

// Those of whom the groups are asked.
func names() []string { return []string{"a", "b", "a-1", "-", "0", long, "nobody"} }

func ids() []int { return []int{0, 1, 3, 10, lastId} }

// told is all that groups tell.
func told(g *group.Groups) string {
	var all []string
	for _, name := range names() {
		gen, there, e := g.Generation(name)
		all = append(all, fmt.Sprintf("%s: %d %t %d, %v", name, gen, there, e, g.Positions(name)))
		for _, id := range ids() {
			pos, there, e := g.At(name, id)
			all = append(all, fmt.Sprintf("%d: %d %t %d", id, pos, there, e))
		}
	}
	return strings.Join(all, "\n") + fmt.Sprint("\n", g.Names(), g.Pending())
}

func wantJoin(t *testing.T, what string, g *group.Groups, name string, gen int64, errno api.Errno) {
	t.Helper()
	if n, e := g.Join(0, name); n != gen || e != errno {
		t.Errorf("%s: Join(0, %.40q) = %d, %d, want %d, %d", what, name, n, e, gen, errno)
	}
}

func wantSet(t *testing.T, what string, g *group.Groups, name string, gen int64, id int, pos int64, errno api.Errno) {
	t.Helper()
	if e := g.Set(0, name, gen, id, pos); e != errno {
		t.Errorf("%s: Set(0, %.40q, %d, %d, %d) = %d, want %d", what, name, gen, id, pos, e, errno)
	}
}

func wantForget(t *testing.T, what string, g *group.Groups, id, n int, errno api.Errno) {
	t.Helper()
	if got, e := g.Forget(0, id); got != n || e != errno {
		t.Errorf("%s: Forget(0, %d) = %d, %d, want %d, %d", what, id, got, e, n, errno)
	}
}

func wantCommit(t *testing.T, what string, g *group.Groups) {
	t.Helper()
	want(t, what+": Commit", g.Commit(), api.OK)
	want(t, what+": Pending", g.Pending(), 0)
}

// wantAt fails unless a group has that position; -1: none.
func wantAt(t *testing.T, what string, g *group.Groups, name string, id int, pos int64) {
	t.Helper()
	got, there, e := g.At(name, id)
	if there != (pos >= 0) || got != max(pos, 0) || e != api.OK {
		t.Errorf("%s: At(%q, %d) = %d, %t, %d, want %d", what, name, id, got, there, e, pos)
	}
}

// wantGen fails unless a group has that generation; 0: none.
func wantGen(t *testing.T, what string, g *group.Groups, name string, gen int64) {
	t.Helper()
	got, there, e := g.Generation(name)
	if there != (gen > 0) || got != gen || e != api.OK {
		t.Errorf("%s: Generation(%q) = %d, %t, %d, want %d", what, name, got, there, e, gen)
	}
}

// undone fails unless a call changes nothing: neither on the disk, nor in what is told.
func undone(t *testing.T, what string, d *simfs.Disk, p *topic.Topic, g *group.Groups, call func()) {
	t.Helper()
	image, ops, state, before := probe.Key(d.Image()), d.Ops(), p.State(), told(g)
	call()
	want(t, what+": the disk is as it was", probe.Key(d.Image()) == image, true)
	want(t, what+": operations", d.Ops(), ops)
	want(t, what+": the topic", p.State(), state)
	want(t, what+": told", told(g), before)
}

// want fails if an answer is another one than is wanted.
func want[T comparable](t *testing.T, what string, got, wanted T) {
	t.Helper()
	if got != wanted {
		t.Errorf("%s: %v, want %v", what, got, wanted)
	}
}

func wantList[T comparable](t *testing.T, what string, got, wanted []T) {
	t.Helper()
	if !slices.Equal(got, wanted) {
		t.Errorf("%s: %.600v, want %.600v", what, got, wanted)
	}
}
