package merge_test

import (
	"fmt"
	"slices"
	"strings"
	"testing"

	"chronicle/api"
	"chronicle/hint"
	"chronicle/manifest"
	"chronicle/merge"
	"chronicle/probe"
	"chronicle/record"
	"chronicle/segment"
	"chronicle/simfs"
	"chronicle/topic"
)

// The greatest numbers that may be.
const (
	lastId     = 1<<30 - 1
	lastOffset = 1<<40 - 1
	lastTime   = 1<<50 - 1
)

// put is a value of a key at an offset, at the time 0.
func put(off int64, key, value string) api.Record {
	return api.Record{Kind: api.KValue, Offset: off, Key: key, Value: value}
}

// gone is a key's tombstone at an offset, at the time 0.
func gone(off int64, key string) api.Record {
	return api.Record{Kind: api.KTombstone, Offset: off, Key: key}
}

// at is a record of another time.
func at(time int64, r api.Record) api.Record {
	r.Time = time
	return r
}

// sized is a value of a key that has just n bytes on the disk: some more than the key's, 1000 at most.
func sized(off int64, key string, n int) api.Record {
	r := put(off, key, "")
	for size := record.Size(r); size < n; size = record.Size(r) {
		r.Value = probe.Text(3, len(r.Value)+n-size)
	}
	return r
}

// sizes is how many bytes records have together.
func sizes(recs []api.Record) int {
	n := 0
	for _, r := range recs {
		n += record.Size(r)
	}
	return n
}

func writing(r api.Record) api.Write {
	return api.Write{Key: r.Key, Value: r.Value, Tombstone: r.Kind == api.KTombstone}
}

// lay appends records that have to be taken, at their times.
func lay(t *testing.T, p *topic.Topic, recs ...api.Record) {
	t.Helper()
	for _, r := range recs {
		if off, again, e := p.Append(r.Time, writing(r)); off != r.Offset || again || e != api.OK {
			t.Fatalf("Append of %s: %d, %t, %d", brief(r), off, again, e)
		}
	}
}

func commit(t *testing.T, p *topic.Topic) {
	t.Helper()
	want(t, "Commit", p.Commit(), api.OK)
}

func roll(t *testing.T, p *topic.Topic) {
	t.Helper()
	want(t, "Roll", p.Roll(), api.OK)
}

// made is a new topic with the number 3, the limit 256 and the horizon 10, on a disk of its own, at the time 0.
func made(t *testing.T) (*simfs.Disk, *topic.Topic) {
	t.Helper()
	d, _ := simfs.New(1 << 24)
	p, e := topic.Create(d, 3, 256, 10, 0)
	if p == nil || e != api.OK {
		t.Fatalf("Create: %v, %d", p, e)
	}
	return d, p
}

// filled is such a topic with lists of records, each sealed in a segment of its own, from 1 on, but the last, which is committed.
func filled(t *testing.T, lists ...[]api.Record) (*simfs.Disk, *topic.Topic) {
	t.Helper()
	d, p := made(t)
	for i, list := range lists {
		lay(t, p, list...)
		commit(t, p)
		if i < len(lists)-1 {
			roll(t, p)
		}
	}
	want(t, "sealed segments", len(p.Sealed()), len(lists)-1)
	return d, p
}

// shelf is a segment's records, and its number.
type shelf struct {
	number int
	recs   []api.Record
}

// stored is a disk with the topic 3 in which all but the last of some segments are sealed, without hints.
func stored(t *testing.T, m api.Manifest, shelves ...shelf) *simfs.Disk {
	t.Helper()
	d, _ := simfs.New(1 << 24)
	m.Id, m.Segs = 3, nil
	for i, one := range shelves {
		m.Segs = append(m.Segs, one.number)
		m.NextSeg = max(m.NextSeg, one.number+1)
		s, e := segment.Create(d, 3, one.number, 0, 65536)
		want(t, "segment.Create", e, api.OK)
		for _, r := range one.recs {
			s.Append(r)
			m.Next = r.Offset + 1
		}
		if i < len(shelves)-1 {
			s.Seal()
		}
	}
	want(t, "manifest.Save", manifest.Save(d, m), api.OK)
	return d
}

// opened opens the topic 3 with the limit 256 and the horizon 10 at the time 0.
func opened(t *testing.T, d *simfs.Disk) *topic.Topic {
	t.Helper()
	return openedWith(t, d, 256)
}

func openedWith(t *testing.T, d *simfs.Disk, limit int) *topic.Topic {
	t.Helper()
	p, e := topic.Open(d, 3, limit, 10, 0)
	if p == nil || e != api.OK {
		t.Fatalf("Open: %v, %d", p, e)
	}
	return p
}

// loaded is a disk over what a crash has left.
func loaded(image []api.File) *simfs.Disk {
	d, _ := simfs.Load(image, 1<<24)
	return d
}

// begun starts a merge that has to start.
func begun(t *testing.T, p *topic.Topic) *merge.Merge {
	t.Helper()
	m, e := merge.Start(p)
	if m == nil || e != api.OK {
		t.Fatalf("Start: %v, %d", m, e)
	}
	return m
}

// does is a step that goes well.
func does(kind, seg int, off int64) api.MergeStep {
	return api.MergeStep{Kind: kind, Seg: seg, Offset: off}
}

// tail is the steps behind the records, if these olds are merged into one new segment, whose last record has that offset.
func tail(seg int, last, mark int64, olds ...int) []api.MergeStep {
	list := []api.MergeStep{does(api.MgSeal, seg, last), does(api.MgHint, seg, 0), does(api.MgDir, 0, 0), does(api.MgCommit, 1, mark)}
	return append(list, removals(olds...)...)
}

// removals is the steps behind the moment of a merge.
func removals(olds ...int) []api.MergeStep {
	var list []api.MergeStep
	for _, seg := range olds {
		list = append(list, does(api.MgRemove, seg, 0))
	}
	return append(list, does(api.MgDir, 0, 0), does(api.MgEnd, 0, 0))
}

// wantSteps fails unless the next steps, at a time, are these, and all go well.
func wantSteps(t *testing.T, m *merge.Merge, now int64, steps ...api.MergeStep) {
	t.Helper()
	for i, s := range steps {
		want(t, "Over", m.Over(), false)
		wantStep(t, fmt.Sprint("step ", i), m, now, s, api.OK)
		if t.Failed() {
			t.FailNow()
		}
	}
}

// wantStep fails unless the next step is this one.
func wantStep(t *testing.T, what string, m *merge.Merge, now int64, s api.MergeStep, errno api.Errno) {
	t.Helper()
	if got, e := m.Step(now); got != s || e != errno {
		t.Errorf("%s: Step(%d) = %v, %d, want %v, %d", what, now, got, e, s, errno)
	}
}

// run does all steps that are left, at a time, and tells them.
func run(t *testing.T, m *merge.Merge, now int64) []api.MergeStep {
	t.Helper()
	var list []api.MergeStep
	for !m.Over() {
		s, e := m.Step(now)
		if e != api.OK || len(list) > 10000 {
			t.Fatalf("step %d: %v, %d", len(list), s, e)
		}
		list = append(list, s)
	}
	return list
}

// wantOver fails unless a merge is over, and its topic released.
func wantOver(t *testing.T, what string, m *merge.Merge, p *topic.Topic) {
	t.Helper()
	for range 2 {
		want(t, what+": Over", m.Over(), true)
		wantStep(t, what, m, 99, api.MergeStep{}, api.ErrOver)
		want(t, what+": Stop", m.Stop(), api.ErrOver)
	}
	want(t, what+": released: Hold", p.Hold(), api.OK)
	want(t, what+": another one's hold stays: Step", second(m.Step(0)), api.ErrOver)
	want(t, what+": another one's hold stays: Hold", p.Hold(), api.ErrMerging)
	p.Release()
}

func second[A, B any](_ A, b B) B { return b }

// wantRecords fails unless just these records are left.
func wantRecords(t *testing.T, what string, p *topic.Topic, recs ...api.Record) {
	t.Helper()
	if got, e := p.Records(); e != api.OK || !slices.Equal(got, recs) {
		t.Errorf("%s: Records = %s, %d, want %s", what, briefs(got), e, briefs(recs))
	}
}

// names is the names of an image's files.
func names(image []api.File) []string {
	var list []string
	for _, f := range image {
		list = append(list, f.Name)
	}
	return list
}

// looked is the records of a segment's file, which has to be whole, and sealed or not.
func looked(t *testing.T, d *simfs.Disk, seg int, sealed bool) []api.Record {
	t.Helper()
	b, _ := d.Read(segment.Name(3, seg), 0, 1<<20)
	info, list, spot := segment.Look(b)
	if spot.Err != api.OK || info.Topic != 3 || info.Number != seg || info.Sealed != sealed {
		t.Fatalf("segment %d: %v, %v", seg, info, spot)
	}
	return plain(list)
}

func plain(list []api.Placed) []api.Record {
	var recs []api.Record
	for _, p := range list {
		recs = append(recs, p.Rec)
	}
	return recs
}

// placed is records as they lie behind a head.
func placed(recs []api.Record) []api.Placed {
	var list []api.Placed
	for i, r := range recs {
		list = append(list, api.Placed{Rec: r, Pos: 21 + sizes(recs[:i]), Len: record.Size(r)})
	}
	return list
}

// hintOf is the bytes of the hint of a sealed segment with such records.
func hintOf(t *testing.T, seg int, recs []api.Record) []byte {
	t.Helper()
	b, e := hint.Encode(hint.Of(seg, 38+sizes(recs), placed(recs)))
	want(t, "hint.Encode", e, api.OK)
	return b
}

// brief tells a record, its texts cut short.
func brief(r api.Record) string {
	return fmt.Sprintf("{kind %d at %d, time %d, %.10q: %.20q, %d bytes}", r.Kind, r.Offset, r.Time, r.Key, r.Value, record.Size(r))
}

func briefs(recs []api.Record) string {
	var list []string
	for _, r := range recs {
		list = append(list, brief(r))
	}
	return strings.Join(list, " ")
}

// want fails if an answer is another one than is wanted.
func want[T comparable](t *testing.T, what string, got, wanted T) {
	t.Helper()
	if got != wanted {
		t.Errorf("%s: %v, want %v", what, got, wanted)
	}
}

func wantList[T comparable](t *testing.T, what string, got, wanted []T) {
	t.Helper()
	if !slices.Equal(got, wanted) {
		t.Errorf("%s: %.600v, want %.600v", what, got, wanted)
	}
}
