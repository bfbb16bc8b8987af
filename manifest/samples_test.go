package manifest_test

import (
	"bytes"
	"encoding/binary"
	"fmt"
	"hash/crc32"
	"reflect"
	"slices"
	"strings"
	"testing"

	"chronicle/api"
	"chronicle/manifest"
	"chronicle/simfs"
)

// The greatest numbers that may be.
const (
	lastId     = 1<<30 - 1
	lastOffset = 1<<40 - 1
	lastTime   = 1<<50 - 1
	lastPid    = 1<<32 - 1
	lastSeq    = 1<<40 - 1
)

// small is the manifest of the chapter's first example.
func small() api.Manifest { return api.Manifest{Id: 3, NextSeg: 3, Segs: []int{1, 2}} }

// rich is a manifest of which no number is 0.
func rich() api.Manifest {
	return api.Manifest{
		Id: 3, NextSeg: 900, Next: 1000, Mark: 300, Clock: 70000, Segs: []int{5, 899, 2, 300},
		Prods: []api.Prod{{Pid: 1, Seq: 1, Off: 999}, {Pid: 2, Seq: 129, Off: 128}, {Pid: 1 << 20, Seq: 7, Off: 0}},
	}
}

// greatest is a manifest with as many bytes as one may have.
func greatest() api.Manifest {
	m := api.Manifest{Id: lastId, NextSeg: lastId + 1, Next: lastOffset + 1, Mark: lastOffset + 1, Clock: lastTime}
	for i := range 64 {
		m.Segs = append(m.Segs, lastId-i)
		m.Prods = append(m.Prods, api.Prod{Pid: lastPid - 63 + int64(i), Seq: lastSeq, Off: lastOffset})
	}
	return m
}

// pair is a catalogue of two topics.
func pair() api.Catalogue {
	return api.Catalogue{NextId: 9, Topics: []api.TopicEntry{{Id: 8, Name: "a", Limit: 256}, {Id: 2, Name: "a-1", Limit: 300, Horizon: 5}}}
}

// whole is a catalogue with as many bytes as one may have.
func whole() api.Catalogue {
	c := api.Catalogue{NextId: lastId + 1}
	for i := range 16 {
		name := fmt.Sprintf("%s%02d", strings.Repeat("z", 22), i)
		c.Topics = append(c.Topics, api.TopicEntry{Id: lastId - i, Name: name, Limit: 65536, Horizon: 1 << 40})
	}
	return c
}

func manifests() []api.Manifest {
	return []api.Manifest{small(), rich(), greatest(), {NextSeg: 2, Segs: []int{1}}}
}

func catalogues() []api.Catalogue {
	return []api.Catalogue{{NextId: 1}, pair(), whole(), {NextId: 2, Topics: []api.TopicEntry{{Id: 1, Name: "-", Limit: 65536}}}}
}

func within(n, least, most int64) bool { return least <= n && n <= most }

// slowCheck tells whether a manifest may be, as the chapter tells it.
func slowCheck(m api.Manifest) bool {
	ok := within(int64(m.Id), 0, lastId) && within(int64(m.NextSeg), 2, 1<<30) && within(m.Next, 0, 1<<40) && within(m.Clock, 0, lastTime)
	ok = ok && m.Mark >= 0 && m.Mark <= m.Next && len(m.Segs) >= 1 && len(m.Segs) <= 64 && len(m.Prods) <= 64
	for i, s := range m.Segs {
		ok = ok && s >= 1 && s < m.NextSeg
		for k, other := range m.Segs {
			ok = ok && (i == k || s != other)
		}
	}
	for i, p := range m.Prods {
		ok = ok && within(p.Pid, 1, lastPid) && within(p.Seq, 1, lastSeq) && p.Off >= 0 && p.Off < m.Next
		ok = ok && (i == 0 || p.Pid > m.Prods[i-1].Pid)
	}
	return ok
}

// slowName tells whether a topic may have a name, by its bytes.
func slowName(name string) bool {
	for _, c := range []byte(name) {
		if strings.IndexByte("abcdefghijklmnopqrstuvwxyz0123456789-", c) < 0 {
			return false
		}
	}
	return len(name) >= 1 && len(name) <= 24
}

// slowCatalogue tells whether a catalogue may be, as the chapter tells it.
func slowCatalogue(c api.Catalogue) bool {
	ok := within(int64(c.NextId), 1, 1<<30) && len(c.Topics) <= 16
	for i, a := range c.Topics {
		ok = ok && slowName(a.Name) && a.Id >= 1 && a.Id < c.NextId && within(int64(a.Limit), 256, 65536) && within(a.Horizon, 0, 1<<40)
		for _, b := range c.Topics[:i] {
			ok = ok && bytes.Compare([]byte(b.Name), []byte(a.Name)) < 0 && a.Id != b.Id
		}
	}
	return ok
}

// numbered is numbers and texts as a body has them.
func numbered(parts ...any) []byte {
	var b []byte
	for _, p := range parts {
		switch x := p.(type) {
		case int:
			b = binary.AppendUvarint(b, uint64(x))
		case int64:
			b = binary.AppendUvarint(b, uint64(x))
		case uint64:
			b = binary.AppendUvarint(b, x)
		case string:
			b = append(binary.AppendUvarint(b, uint64(len(x))), x...)
		case []byte:
			b = append(b, x...)
		default:
			panic(fmt.Sprintf("%T", p))
		}
	}
	return b
}

// slowBody writes a manifest's body as the chapter tells it, whether it may be or not.
func slowBody(m api.Manifest) []byte {
	b := numbered(m.Id, m.NextSeg, m.Next, m.Mark, m.Clock, len(m.Segs))
	for _, s := range m.Segs {
		b = append(b, numbered(s)...)
	}
	b = append(b, numbered(len(m.Prods))...)
	for _, p := range m.Prods {
		b = append(b, numbered(p.Pid, p.Seq, p.Off)...)
	}
	return b
}

// slowBodyOf writes a catalogue's body.
func slowBodyOf(c api.Catalogue) []byte {
	b := numbered(c.NextId, len(c.Topics))
	for _, a := range c.Topics {
		b = append(b, numbered(a.Id, a.Name, a.Limit, a.Horizon)...)
	}
	return b
}

func castagnoli(b []byte) uint32 { return crc32.Checksum(b, crc32.MakeTable(crc32.Castagnoli)) }

// framed is a body behind a mark, a length and the right sum of both.
func framed(mark byte, length uint32, body []byte) []byte {
	n := binary.BigEndian.AppendUint32(nil, length)
	b := append([]byte{mark}, n...)
	b = binary.BigEndian.AppendUint32(b, castagnoli(append(n, body...)))
	return append(b, body...)
}

// Files with such bodies.
func manifestOf(body []byte) []byte  { return framed(0xb3, uint32(len(body)), body) }
func catalogueOf(body []byte) []byte { return framed(0xb7, uint32(len(body)), body) }

func slowEncode(m api.Manifest) []byte           { return manifestOf(slowBody(m)) }
func slowEncodeCatalogue(c api.Catalogue) []byte { return catalogueOf(slowBodyOf(c)) }

// right is the bytes of right manifests and of right catalogues.
func right() [][]byte {
	var list [][]byte
	for _, m := range manifests() {
		list = append(list, slowEncode(m))
	}
	for _, c := range catalogues() {
		list = append(list, slowEncodeCatalogue(c))
	}
	return list
}

func sameManifest(a, b api.Manifest) bool {
	same := slices.Equal(a.Segs, b.Segs) && slices.Equal(a.Prods, b.Prods)
	a.Segs, a.Prods, b.Segs, b.Prods = nil, nil, nil, nil
	return same && reflect.DeepEqual(a, b)
}

func sameCatalogue(a, b api.Catalogue) bool {
	return a.NextId == b.NextId && slices.Equal(a.Topics, b.Topics)
}

// want fails if an answer is another one than is wanted.
func want[T comparable](t *testing.T, what string, got, wanted T) {
	t.Helper()
	if got != wanted {
		t.Errorf("%s: %v, want %v", what, got, wanted)
	}
}

func wantList[T comparable](t *testing.T, what string, got, wanted []T) {
	t.Helper()
	if !slices.Equal(got, wanted) {
		t.Errorf("%s: %.300v, want %.300v", what, got, wanted)
	}
}

// wantManifest fails unless a manifest is answered.
func wantManifest(t *testing.T, what string, got api.Manifest, e api.Errno, wanted api.Manifest) {
	t.Helper()
	if e != api.OK || !sameManifest(got, wanted) {
		t.Errorf("%s: %v, %d, want %v", what, got, e, wanted)
	}
}

func wantCatalogue(t *testing.T, what string, got api.Catalogue, e api.Errno, wanted api.Catalogue) {
	t.Helper()
	if e != api.OK || !sameCatalogue(got, wanted) {
		t.Errorf("%s: %v, %d, want %v", what, got, e, wanted)
	}
}

// wantBytes fails unless a manifest is taken and has just these bytes, and these give it back and are no catalogue.
func wantBytes(t *testing.T, what string, m api.Manifest, b []byte) {
	t.Helper()
	want(t, what+": Check", manifest.Check(m), api.OK)
	if got, e := manifest.Encode(m); e != api.OK || !bytes.Equal(got, b) {
		t.Errorf("%s: Encode(%v) = %x, %d, want %x", what, m, got, e, b)
	}
	got, e := manifest.Decode(b)
	wantManifest(t, what+": Decode", got, e, m)
	wantNoCatalogue(t, what, b)
}

func wantBytesOf(t *testing.T, what string, c api.Catalogue, b []byte) {
	t.Helper()
	want(t, what+": CheckCatalogue", manifest.CheckCatalogue(c), api.OK)
	if got, e := manifest.EncodeCatalogue(c); e != api.OK || !bytes.Equal(got, b) {
		t.Errorf("%s: EncodeCatalogue(%v) = %x, %d, want %x", what, c, got, e, b)
	}
	got, e := manifest.DecodeCatalogue(b)
	wantCatalogue(t, what+": DecodeCatalogue", got, e, c)
	wantNoManifest(t, what, b)
}

// wantWrong fails unless a manifest is refused, its bytes too, as if it had any.
func wantWrong(t *testing.T, what string, m api.Manifest) {
	t.Helper()
	want(t, what+": Check", manifest.Check(m), api.ErrManifest)
	if b, e := manifest.Encode(m); e != api.ErrManifest || len(b) != 0 {
		t.Errorf("%s: Encode(%v) = %x, %d", what, m, b, e)
	}
	wantNoManifest(t, what, slowEncode(m))
}

func wantWrongOf(t *testing.T, what string, c api.Catalogue) {
	t.Helper()
	want(t, what+": CheckCatalogue", manifest.CheckCatalogue(c), api.ErrCatalogue)
	if b, e := manifest.EncodeCatalogue(c); e != api.ErrCatalogue || len(b) != 0 {
		t.Errorf("%s: EncodeCatalogue(%v) = %x, %d", what, c, b, e)
	}
	wantNoCatalogue(t, what, slowEncodeCatalogue(c))
}

func wantNoManifest(t *testing.T, what string, b []byte) {
	t.Helper()
	if m, e := manifest.Decode(b); e != api.ErrDamaged || !sameManifest(m, api.Manifest{}) {
		t.Errorf("%s: Decode(%.60x) = %v, %d", what, b, m, e)
	}
}

func wantNoCatalogue(t *testing.T, what string, b []byte) {
	t.Helper()
	if c, e := manifest.DecodeCatalogue(b); e != api.ErrDamaged || !sameCatalogue(c, api.Catalogue{}) {
		t.Errorf("%s: DecodeCatalogue(%.60x) = %v, %d", what, b, c, e)
	}
}

// wantNeither fails unless bytes are no manifest and no catalogue.
func wantNeither(t *testing.T, what string, b []byte) {
	t.Helper()
	wantNoManifest(t, what, b)
	wantNoCatalogue(t, what, b)
}

// holding is a disk with such files, all of it durable.
func holding(t *testing.T, files map[string]string) *simfs.Disk {
	t.Helper()
	d, e := simfs.Load(imageOf(files), 1<<20)
	if e != api.OK {
		t.Fatalf("Load: %d", e)
	}
	return d
}

func imageOf(files map[string]string) []api.File {
	var image []api.File
	for name, b := range files {
		image = append(image, api.File{Name: name, Data: []byte(b)})
	}
	slices.SortFunc(image, func(a, b api.File) int { return strings.Compare(a.Name, b.Name) })
	return image
}

// filesOf is an image's files by their names.
func filesOf(image []api.File) map[string]string {
	files := map[string]string{}
	for _, f := range image {
		files[f.Name] = string(f.Data)
	}
	return files
}

// wantImage fails unless an image has just these files.
func wantImage(t *testing.T, what string, image []api.File, files map[string]string) {
	t.Helper()
	if got := filesOf(image); len(got) != len(image) || !reflect.DeepEqual(got, files) {
		t.Errorf("%s: %.300q, want %.300q", what, got, files)
	}
}

// unpowered is a disk with such files that has lost its power.
func unpowered(t *testing.T, files map[string]string) *simfs.Disk {
	t.Helper()
	d := holding(t, files)
	d.Fuse(0)
	want(t, "SyncDir", d.SyncDir(), api.ErrDead)
	return d
}
