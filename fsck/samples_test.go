package fsck_test

import (
	"encoding/binary"
	"fmt"
	"hash/crc32"
	"maps"
	"slices"
	"strings"
	"testing"

	"chronicle/api"
	"chronicle/fsck"
	"chronicle/hint"
	"chronicle/manifest"
	"chronicle/probe"
	"chronicle/record"
	"chronicle/simfs"
)

// The greatest numbers that may be.
const (
	lastId     = 1<<30 - 1
	lastOffset = 1<<40 - 1
	lastTime   = 1<<50 - 1
	horizons   = 1 << 40
	wide       = 1 << 24 // a disk that is never full
)

// usual is the config of the tests where no other is told.
func usual() api.Config { return api.Config{Limit: 256, Horizon: 100} }

// files is what lies on a disk, by names.
type files map[string]string

// with is the same files and one more, or one of them with other bytes.
func (f files) with(name, b string) files {
	f = maps.Clone(f)
	f[name] = b
	return f
}

func (f files) without(names ...string) files {
	f = maps.Clone(f)
	for _, name := range names {
		delete(f, name)
	}
	return f
}

// and is the files of both; of one name those of the other.
func (f files) and(other files) files {
	all := files{}
	maps.Copy(all, f)
	maps.Copy(all, other)
	return all
}

// turned is the same files, with one byte of one of them changed; below 0 it is counted from its end.
func (f files) turned(name string, at int) files {
	b := []byte(f[name])
	b[(at+len(b))%len(b)] ^= 1
	return f.with(name, string(b))
}

// cut is the same files, one of them without its last bytes.
func (f files) cut(name string, n int) files { return f.with(name, f[name][:len(f[name])-n]) }

func (f files) names() []string { return slices.Sorted(maps.Keys(f)) }

func (f files) image() []api.File {
	var image []api.File
	for _, name := range f.names() {
		image = append(image, api.File{Name: name, Data: []byte(f[name])})
	}
	return image
}

func (f files) size() int {
	n := 0
	for _, b := range f {
		n += len(b)
	}
	return n
}

func filesOf(image []api.File) files {
	f := files{}
	for _, one := range image {
		f[one.Name] = string(one.Data)
	}
	return f
}

// loaded is a disk of an image, all of it durable.
func loaded(t *testing.T, image []api.File) *simfs.Disk {
	t.Helper()
	d, e := simfs.Load(image, wide)
	if e != api.OK {
		t.Fatalf("Load: %d", e)
	}
	return d
}

func holding(t *testing.T, f files) *simfs.Disk {
	t.Helper()
	return loaded(t, f.image())
}

// unpowered is a disk with such files, and without power.
func unpowered(t *testing.T, f files) *simfs.Disk {
	t.Helper()
	d := holding(t, f)
	d.Fuse(0)
	want(t, "SyncDir", d.SyncDir(), api.ErrDead)
	return d
}

// put is a value of the key at an offset, of the time 7.
func put(off int64, key, value string) api.Record {
	return api.Record{Kind: api.KValue, Offset: off, Time: 7, Key: key, Value: value}
}

// gone is a key's tombstone at an offset, likewise.
func gone(off int64, key string) api.Record {
	return api.Record{Kind: api.KTombstone, Offset: off, Time: 7, Key: key}
}

// of is a record as its producer numbers it.
func of(pid, seq int64, r api.Record) api.Record {
	r.Pid, r.Seq = pid, seq
	return r
}

// at is a record of another time.
func at(time int64, r api.Record) api.Record {
	r.Time = time
	return r
}

// sized is a value of the key k that has just n bytes on the disk, 15 to 1038.
func sized(off int64, n int) api.Record {
	r := put(off, "k", "")
	for size := record.Size(r); size < n; size = record.Size(r) {
		r.Value = probe.Text(3, len(r.Value)+n-size)
	}
	return r
}

// bytesOf is a record's bytes.
func bytesOf(r api.Record) string {
	b, e := record.Encode(r)
	if e != api.OK {
		panic(fmt.Sprint(r, e))
	}
	return string(b)
}

func withSum(b []byte) []byte {
	return binary.BigEndian.AppendUint32(b, crc32.Checksum(b, crc32.MakeTable(crc32.Castagnoli)))
}

// shelf is a segment's file.
type shelf struct {
	number int
	base   int64
	recs   []api.Record
	sealed bool
}

// open is a shelf that is written to, shut one that is sealed; their bases are their first records' offsets.
func open(number int, recs ...api.Record) shelf {
	s := shelf{number: number, recs: recs}
	if len(recs) > 0 {
		s.base = recs[0].Offset
	}
	return s
}

func shut(number int, recs ...api.Record) shelf {
	s := open(number, recs...)
	s.sealed = true
	return s
}

// bytes is what lies in it, as chapter 5 tells it, for a topic.
func (s shelf) bytes(topic int) string {
	b := binary.BigEndian.AppendUint32([]byte{0xad}, uint32(topic))
	b = binary.BigEndian.AppendUint32(b, uint32(s.number))
	b = withSum(binary.BigEndian.AppendUint64(b, uint64(s.base)))
	last := s.base - 1
	for _, r := range s.recs {
		b = append(b, bytesOf(r)...)
		last = r.Offset
	}
	if s.sealed {
		b = binary.BigEndian.AppendUint32(append(b, 0xae), uint32(len(s.recs)))
		b = withSum(binary.BigEndian.AppendUint64(b, uint64(last)))
	}
	return string(b)
}

// size is how many bytes it has up to its tail.
func (s shelf) size() int { return 21 + sizes(s.recs) }

// sizes is how many bytes records have together.
func sizes(recs []api.Record) int {
	n := 0
	for _, r := range recs {
		n += record.Size(r)
	}
	return n
}

// hint is the bytes of its hint.
func (s shelf) hint() string {
	var list []api.Placed
	for i, r := range s.recs {
		list = append(list, api.Placed{Rec: r, Pos: 21 + sizes(s.recs[:i]), Len: record.Size(r)})
	}
	b, e := hint.Encode(hint.Of(s.number, s.size()+17, list))
	if e != api.OK {
		panic(fmt.Sprint(s, e))
	}
	return string(b)
}

func segName(topic, seg int) string  { return fmt.Sprintf("t%d.%d.seg", topic, seg) }
func hintName(topic, seg int) string { return fmt.Sprintf("t%d.%d.hint", topic, seg) }
func manName(topic int) string       { return fmt.Sprintf("t%d.man", topic) }

// manOf is a manifest's bytes.
func manOf(m api.Manifest) string {
	b, e := manifest.Encode(m)
	if e != api.OK {
		panic(fmt.Sprint(m, e))
	}
	return string(b)
}

// catalogue is a catalogue's bytes.
func catalogue(next int, topics ...api.TopicEntry) string {
	b, e := manifest.EncodeCatalogue(api.Catalogue{NextId: next, Topics: topics})
	if e != api.OK {
		panic(fmt.Sprint(topics, e))
	}
	return string(b)
}

// stored is the files of a topic with such segments, of which all but the last have hints, if they are sealed. What the manifest does not say it says of these.
func stored(m api.Manifest, shelves ...shelf) files {
	f := files{}
	for i, s := range shelves {
		m.Segs = append(m.Segs, s.number)
		m.NextSeg = max(m.NextSeg, s.number+1)
		f[segName(m.Id, s.number)] = s.bytes(m.Id)
		if !s.sealed || i == len(shelves)-1 {
			continue
		}
		f[hintName(m.Id, s.number)] = s.hint()
		if n := len(s.recs); n > 0 {
			m.Next = max(m.Next, s.recs[n-1].Offset+1)
		}
	}
	f[manName(m.Id)] = manOf(m)
	return f
}

func entry(id int, name string) api.TopicEntry {
	return api.TopicEntry{Id: id, Name: name, Limit: 256, Horizon: 100}
}

// The segments of the topic "a", number 3, of most of these tests. A merge has left out the offset 3.
func first() shelf { return shut(5, put(0, "a", "1"), of(1, 3, at(60, put(1, "b", "2")))) }

func second() shelf { return shut(2, gone(2, "a"), put(4, "c", "4")) }

func third() shelf {
	return open(7, of(9, 1, at(40, put(5, "a", "5"))), of(1, 4, at(45, put(6, "d", "6"))), at(44, gone(7, "c")))
}

func manOfThree() api.Manifest {
	return api.Manifest{Id: 3, NextSeg: 11, Next: 5, Mark: 2, Clock: 30, Prods: []api.Prod{{Pid: 1, Seq: 3, Off: 1}}}
}

func three() files { return stored(manOfThree(), first(), second(), third()) }

// recsOfThree is the records that are left there.
func recsOfThree() []api.Record { return slices.Concat(first().recs, second().recs, third().recs) }

// recsOfB is those of the topic "b", number 1; recsOfGroups those of the groups' own topic.
func recsOfB() []api.Record { return []api.Record{put(0, "x", "1"), put(1, "y", "2"), gone(2, "x")} }

func recsOfGroups() []api.Record { return []api.Record{put(0, "g", "\x01"), put(1, "h", "\x02")} }

// whole is a store without damage: three, a topic "b" with two segments, an empty one "b-2", the groups' own one. The next number is 7.
func whole() files {
	f := files{"catalog": catalogue(7, entry(3, "a"), api.TopicEntry{Id: 1, Name: "b", Limit: 300, Horizon: 5}, entry(4, "b-2"))}
	return f.and(three()).
		and(stored(api.Manifest{Id: 1, NextSeg: 9}, shut(1, recsOfB()[:2]...), open(8, recsOfB()[2:]...))).
		and(stored(api.Manifest{Id: 4}, open(1))).
		and(stored(api.Manifest{Id: 0}, open(1, recsOfGroups()...)))
}

// savedOfWhole is what Salvage tells of it.
func savedOfWhole() []api.Saved {
	return []api.Saved{{Id: 0, Records: recsOfGroups()}, {Name: "b", Id: 1, Records: recsOfB()}, {Name: "a", Id: 3, Records: recsOfThree()}, {Name: "b-2", Id: 4}}
}

// others is files of names that are none of a store.
func others() files {
	return files{"x.txt": "some", "t3.0.seg": first().bytes(3), "t03.man": "", "catalog.tmp.tmp": "c", "t3.seg": "", "t1.1.segs": "", "0": "", "t1073741824.man": ""}
}

// looking is a call that may only read: it fails if anything on the disk is changed by it, or would be.
func looking(t *testing.T, what string, d *simfs.Disk, call func()) {
	t.Helper()
	before, ops, dead := sight(d), d.Ops(), d.Dead()
	d.Fuse(0)
	call()
	d.Fuse(-1)
	want(t, what+": operations", d.Ops(), ops)
	want(t, what+": without power", d.Dead(), dead)
	want(t, what+": the disk is as it was", sight(d) == before, true)
}

// sight is all that can be seen of a disk's files, and some of what a crash would leave of them.
func sight(d *simfs.Disk) string {
	all := probe.Key(d.Image())
	for _, picks := range [][]int{nil, {1}, {2, 1, 0, 1}, {3, 1, 1, 1, 1}, {5, 0, 7, 1, 3}} {
		all += "\n" + probe.Key(d.Crash(picks))
	}
	return all
}

// checked is what Check finds on a disk with power.
func checked(t *testing.T, what string, d *simfs.Disk) []api.Finding {
	t.Helper()
	var list []api.Finding
	var e api.Errno
	looking(t, what+": Check", d, func() { list, e = fsck.Check(d) })
	want(t, what+": Check", e, api.OK)
	return list
}

// salvaged is what Salvage tells of a disk with power.
func salvaged(t *testing.T, what string, d *simfs.Disk) []api.Saved {
	t.Helper()
	var list []api.Saved
	var e api.Errno
	looking(t, what+": Salvage", d, func() { list, e = fsck.Salvage(d) })
	want(t, what+": Salvage", e, api.OK)
	return list
}

// rebuilt is what Rebuild of some files lays on a new disk, which has to be OK.
func rebuilt(t *testing.T, what string, f files, cfg api.Config) *simfs.Disk {
	t.Helper()
	d, to := holding(t, f), holding(t, nil)
	findings := checked(t, what, d)
	looking(t, what+": Rebuild", d, func() {
		list, e := fsck.Rebuild(d, to, cfg)
		want(t, what+": Rebuild", e, api.OK)
		wantList(t, what+": Rebuild's findings", list, findings)
	})
	return to
}

// brief tells a record, its texts cut short.
func brief(r api.Record) string {
	return fmt.Sprintf("{kind %d at %d, time %d, %d/%d, %.10q: %.20q, %d bytes}", r.Kind, r.Offset, r.Time, r.Pid, r.Seq, r.Key, r.Value, record.Size(r))
}

func briefs(recs []api.Record) string {
	var list []string
	for _, r := range recs {
		list = append(list, brief(r))
	}
	return strings.Join(list, " ")
}

// want fails if an answer is another one than is wanted.
func want[T comparable](t *testing.T, what string, got, wanted T) {
	t.Helper()
	if got != wanted {
		t.Errorf("%s: %v, want %v", what, got, wanted)
	}
}

func wantList[T comparable](t *testing.T, what string, got, wanted []T) {
	t.Helper()
	if !slices.Equal(got, wanted) {
		t.Errorf("%s: %.600v, want %.600v", what, got, wanted)
	}
}

// wantFiles fails unless an image has just these files.
func wantFiles(t *testing.T, what string, image []api.File, f files) {
	t.Helper()
	got := filesOf(image)
	wantList(t, what+": names", got.names(), f.names())
	for name, b := range f {
		if got[name] != b {
			t.Errorf("%s: %s has %x, want %x", what, name, got[name], b)
		}
	}
}

// wantRecords fails unless these are the wanted records.
func wantRecords(t *testing.T, what string, got, wanted []api.Record) {
	t.Helper()
	if !slices.Equal(got, wanted) {
		t.Errorf("%s: %s, want %s", what, briefs(got), briefs(wanted))
	}
}

// wantSaved fails unless just this was saved.
func wantSaved(t *testing.T, what string, got, wanted []api.Saved) {
	t.Helper()
	if len(got) != len(wanted) {
		t.Errorf("%s: %d topics were saved, want %d", what, len(got), len(wanted))
		return
	}
	for i, s := range got {
		want(t, what+": the number", s.Id, wanted[i].Id)
		want(t, what+": the name", s.Name, wanted[i].Name)
		wantRecords(t, fmt.Sprint(what, ": the topic ", s.Id), s.Records, wanted[i].Records)
	}
}

// wantFound fails unless Check finds just this.
func wantFound(t *testing.T, what string, f files, findings ...api.Finding) {
	t.Helper()
	wantList(t, what, checked(t, what, holding(t, f)), findings)
}

// found is a finding at the place 0.
func found(kind int, file string) api.Finding { return api.Finding{Kind: kind, File: file} }

// foundAt is one elsewhere.
func foundAt(kind int, file string, at int) api.Finding {
	return api.Finding{Kind: kind, File: file, At: at}
}
