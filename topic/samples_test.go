package topic_test

import (
	"encoding/binary"
	"fmt"
	"hash/crc32"
	"maps"
	"slices"
	"strings"
	"testing"

	"chronicle/api"
	"chronicle/hint"
	"chronicle/manifest"
	"chronicle/probe"
	"chronicle/record"
	"chronicle/segment"
	"chronicle/simfs"
	"chronicle/topic"
)

// The greatest numbers that may be.
const (
	lastId     = 1<<30 - 1
	lastOffset = 1<<40 - 1
	lastTime   = 1<<50 - 1
)

// files is what lies on a disk, by names.
type files map[string]string

// with is the same files and one more, or one of them with other bytes.
func (f files) with(name, b string) files {
	f = maps.Clone(f)
	f[name] = b
	return f
}

func (f files) without(name string) files {
	f = maps.Clone(f)
	delete(f, name)
	return f
}

// turned is the same files, with one byte of one of them changed.
func (f files) turned(name string, at int) files {
	b := []byte(f[name])
	b[at] ^= 1
	return f.with(name, string(b))
}

func (f files) image() []api.File {
	var image []api.File
	for _, name := range slices.Sorted(maps.Keys(f)) {
		image = append(image, api.File{Name: name, Data: []byte(f[name])})
	}
	return image
}

func filesOf(image []api.File) files {
	f := files{}
	for _, one := range image {
		f[one.Name] = string(one.Data)
	}
	return f
}

// holding is a disk with such files, all of it durable.
func holding(t *testing.T, f files) *simfs.Disk {
	t.Helper()
	d, e := simfs.Load(f.image(), 1<<24)
	if e != api.OK {
		t.Fatalf("Load: %d", e)
	}
	return d
}

// unpower takes a disk's power away.
func unpower(t *testing.T, d *simfs.Disk) {
	t.Helper()
	d.Fuse(0)
	want(t, "SyncDir", d.SyncDir(), api.ErrDead)
}

// put is a value of the key at an offset, as an Append at the time 7 makes it.
func put(off int64, key, value string) api.Record {
	return api.Record{Kind: api.KValue, Offset: off, Time: 7, Key: key, Value: value}
}

// gone is a key's tombstone at an offset, likewise.
func gone(off int64, key string) api.Record {
	return api.Record{Kind: api.KTombstone, Offset: off, Time: 7, Key: key}
}

// of is a record as its producer numbers it.
func of(pid, seq int64, r api.Record) api.Record {
	r.Pid, r.Seq = pid, seq
	return r
}

// at is a record of another time.
func at(time int64, r api.Record) api.Record {
	r.Time = time
	return r
}

// sized is a value of the key k that has just n bytes on the disk, 15 to 1038.
func sized(off int64, n int) api.Record {
	r := put(off, "k", "")
	for size := record.Size(r); size < n; size = record.Size(r) {
		r.Value = probe.Text(3, len(r.Value)+n-size)
	}
	return r
}

// writing is the write that makes a record.
func writing(r api.Record) api.Write {
	return api.Write{Key: r.Key, Value: r.Value, Tombstone: r.Kind == api.KTombstone, Pid: r.Pid, Seq: r.Seq}
}

func withSum(b []byte) []byte {
	return binary.BigEndian.AppendUint32(b, crc32.Checksum(b, crc32.MakeTable(crc32.Castagnoli)))
}

// shelf is a segment's file.
type shelf struct {
	number int
	base   int64
	recs   []api.Record
	sealed bool
}

// bytes is what lies in it, as chapter 5 tells it, for a topic.
func (s shelf) bytes(topic int) string {
	b := binary.BigEndian.AppendUint32([]byte{0xad}, uint32(topic))
	b = binary.BigEndian.AppendUint32(b, uint32(s.number))
	b = withSum(binary.BigEndian.AppendUint64(b, uint64(s.base)))
	last := s.base - 1
	for _, r := range s.recs {
		one, e := record.Encode(r)
		if e != api.OK {
			panic(fmt.Sprint(r, e))
		}
		b = append(b, one...)
		last = r.Offset
	}
	if s.sealed {
		b = binary.BigEndian.AppendUint32(append(b, 0xae), uint32(len(s.recs)))
		b = withSum(binary.BigEndian.AppendUint64(b, uint64(last)))
	}
	return string(b)
}

// sizes is how many bytes records have together.
func sizes(recs []api.Record) int {
	n := 0
	for _, r := range recs {
		n += record.Size(r)
	}
	return n
}

// placed is records as they lie behind a head.
func placed(recs []api.Record) []api.Placed {
	var list []api.Placed
	for i, r := range recs {
		list = append(list, api.Placed{Rec: r, Pos: 21 + sizes(recs[:i]), Len: record.Size(r)})
	}
	return list
}

// hint is the bytes of its hint.
func (s shelf) hint() string {
	b, e := hint.Encode(hint.Of(s.number, 21+sizes(s.recs)+17, placed(s.recs)))
	if e != api.OK {
		panic(fmt.Sprint(s, e))
	}
	return string(b)
}

func segName(topic, seg int) string  { return fmt.Sprintf("t%d.%d.seg", topic, seg) }
func hintName(topic, seg int) string { return fmt.Sprintf("t%d.%d.hint", topic, seg) }
func manName(topic int) string       { return fmt.Sprintf("t%d.man", topic) }

// manOf is a manifest's bytes.
func manOf(m api.Manifest) string {
	b, e := manifest.Encode(m)
	if e != api.OK {
		panic(fmt.Sprint(m, e))
	}
	return string(b)
}

// stored is the files of a topic with such segments, of which all but the last have hints, if they are sealed.
func stored(m api.Manifest, shelves ...shelf) files {
	f := files{}
	m.Segs = nil
	for i, s := range shelves {
		m.Segs = append(m.Segs, s.number)
		m.NextSeg = max(m.NextSeg, s.number+1)
		f[segName(m.Id, s.number)] = s.bytes(m.Id)
		if s.sealed && i < len(shelves)-1 {
			f[hintName(m.Id, s.number)] = s.hint()
		}
	}
	f[manName(m.Id)] = manOf(m)
	return f
}

// made is a new topic with the number 3, the limit 256 and the horizon 100, at the time 7.
func made(t *testing.T) (*simfs.Disk, *topic.Topic) {
	t.Helper()
	return madeWith(t, 256, 100)
}

func madeWith(t *testing.T, limit int, horizon int64) (*simfs.Disk, *topic.Topic) {
	t.Helper()
	d := holding(t, nil)
	p, e := topic.Create(d, 3, limit, horizon, 7)
	if p == nil || e != api.OK {
		t.Fatalf("Create: %v, %d", p, e)
	}
	return d, p
}

// opened opens the topic 3 with the limit 256 and the horizon 100 at the time 0.
func opened(t *testing.T, d *simfs.Disk) *topic.Topic {
	t.Helper()
	p, e := topic.Open(d, 3, 256, 100, 0)
	if p == nil || e != api.OK {
		t.Fatalf("Open: %v, %d", p, e)
	}
	return p
}

// lay appends records that have to be taken, at their times.
func lay(t *testing.T, p *topic.Topic, recs ...api.Record) {
	t.Helper()
	for _, r := range recs {
		off, again, e := p.Append(r.Time, writing(r))
		if off != r.Offset || again || e != api.OK {
			t.Fatalf("Append of %s: %d, %t, %d", brief(r), off, again, e)
		}
	}
}

// commit commits what has to be committed.
func commit(t *testing.T, p *topic.Topic) {
	t.Helper()
	if e := p.Commit(); e != api.OK {
		t.Fatalf("Commit: %d", e)
	}
}

func roll(t *testing.T, p *topic.Topic) {
	t.Helper()
	if e := p.Roll(); e != api.OK {
		t.Fatalf("Roll: %d", e)
	}
}

// build makes the segment of a number, as a merge does it.
func build(t *testing.T, d *simfs.Disk, s shelf) {
	t.Helper()
	seg, e := segment.Create(d, 3, s.number, s.base, 65536)
	if e != api.OK {
		t.Fatalf("segment.Create: %d", e)
	}
	for _, r := range s.recs {
		if _, e := seg.Append(r); e != api.OK {
			t.Fatalf("Append: %d", e)
		}
	}
	if s.sealed {
		seg.Seal()
	}
}

// numbered is the next number that NewSeg tells.
func numbered(t *testing.T, p *topic.Topic) int {
	t.Helper()
	n, e := p.NewSeg()
	if e != api.OK {
		t.Fatalf("NewSeg: %d", e)
	}
	return n
}

// brief tells a record, its texts cut short.
func brief(r api.Record) string {
	return fmt.Sprintf("{kind %d at %d, time %d, %d/%d, %.10q: %.20q, %d bytes}", r.Kind, r.Offset, r.Time, r.Pid, r.Seq, r.Key, r.Value, record.Size(r))
}

func briefs(recs []api.Record) string {
	var list []string
	for _, r := range recs {
		list = append(list, brief(r))
	}
	return strings.Join(list, " ")
}

// want fails if an answer is another one than is wanted.
func want[T comparable](t *testing.T, what string, got, wanted T) {
	t.Helper()
	if got != wanted {
		t.Errorf("%s: %v, want %v", what, got, wanted)
	}
}

func wantList[T comparable](t *testing.T, what string, got, wanted []T) {
	t.Helper()
	if !slices.Equal(got, wanted) {
		t.Errorf("%s: %.600v, want %.600v", what, got, wanted)
	}
}

// wantFiles fails unless an image has just these files.
func wantFiles(t *testing.T, what string, image []api.File, f files) {
	t.Helper()
	got := filesOf(image)
	wantList(t, what+": names", slices.Sorted(maps.Keys(got)), slices.Sorted(maps.Keys(f)))
	for name, b := range f {
		if got[name] != b {
			t.Errorf("%s: %s has %x, want %x", what, name, got[name], b)
		}
	}
}

// wantAppend fails unless Append answers so.
func wantAppend(t *testing.T, what string, p *topic.Topic, now int64, w api.Write, off int64, again bool, errno api.Errno) {
	t.Helper()
	if o, a, e := p.Append(now, w); o != off || a != again || e != errno {
		t.Errorf("%s: Append = %d, %t, %d, want %d, %t, %d", what, o, a, e, off, again, errno)
	}
}

// wantRecords fails unless just these records are left.
func wantRecords(t *testing.T, what string, p *topic.Topic, recs ...api.Record) {
	t.Helper()
	if got, e := p.Records(); e != api.OK || !slices.Equal(got, recs) {
		t.Errorf("%s: Records = %s, %d, want %s", what, briefs(got), e, briefs(recs))
	}
}

// wantGet fails unless a key has such a record, or none, if that is none.
func wantGet(t *testing.T, what string, p *topic.Topic, key string, r api.Record) {
	t.Helper()
	if got, ok, e := p.Get(key); got != r || ok != (r != api.Record{}) || e != api.OK {
		t.Errorf("%s: Get(%q) = %s, %t, %d, want %s", what, key, brief(got), ok, e, brief(r))
	}
}

// wantFrom fails unless From answers so.
func wantFrom(t *testing.T, what string, p *topic.Topic, offset int64, most, size int, recs []api.Record, next int64, errno api.Errno) {
	t.Helper()
	if got, n, e := p.From(offset, most, size); !slices.Equal(got, recs) || n != next || e != errno {
		t.Errorf("%s: From(%d, %d, %d) = %s, %d, %d, want %s, %d, %d", what, offset, most, size, briefs(got), n, e, briefs(recs), next, errno)
	}
}

func wantKeys(t *testing.T, what string, p *topic.Topic, lo, hi string, most int, more bool, keys ...string) {
	t.Helper()
	if got, m := p.Keys(lo, hi, most); !slices.Equal(got, keys) || m != more {
		t.Errorf("%s: Keys(%q, %q, %d) = %q, %t, want %q, %t", what, lo, hi, most, got, m, keys, more)
	}
}

// wantTake fails unless Take answers so.
func wantTake(t *testing.T, what string, p *topic.Topic, seg, at int, r api.Record, next int, errno api.Errno) {
	t.Helper()
	if got, n, e := p.Take(seg, at); got != r || n != next || e != errno {
		t.Errorf("%s: Take(%d, %d) = %s, %d, %d, want %s, %d, %d", what, seg, at, brief(got), n, e, brief(r), next, errno)
	}
}

// wantRefused fails if a topic was made all the same, or another error is told.
func wantRefused(t *testing.T, what string, p *topic.Topic, e, wanted api.Errno) {
	t.Helper()
	if p != nil || e != wanted {
		t.Errorf("%s: %v, %d, want no topic, %d", what, p, e, wanted)
	}
}
