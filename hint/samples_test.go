package hint_test

import (
	"bytes"
	"encoding/binary"
	"fmt"
	"hash/crc32"
	"math/big"
	"slices"
	"strings"
	"testing"

	"chronicle/api"
	"chronicle/hint"
	"chronicle/probe"
	"chronicle/record"
	"chronicle/segment"
	"chronicle/simfs"
)

// The files that most tests use: those of the segment 7 of topic 3.
const (
	segFile  = "t3.7.seg"
	hintFile = "t3.7.hint"
)

// The greatest numbers that may be.
const (
	lastId     = 1<<30 - 1
	lastOffset = 1<<40 - 1
	lastTime   = 1<<50 - 1
)

func put(off, time int64, key, v string) api.Record {
	return api.Record{Kind: api.KValue, Offset: off, Time: time, Key: key, Value: v}
}

func gone(off, time int64, key string) api.Record {
	return api.Record{Kind: api.KTombstone, Offset: off, Time: time, Key: key}
}

// few is some records of each kind: keys with one record and with several, the last of them a value or a tombstone.
func few() []api.Record {
	made := put(18, 9, "k", "made")
	made.Pid, made.Seq = 9, 300
	return []api.Record{
		put(12, 5, "a", "x"), put(13, 300, "b", "x"), gone(15, 301, "a"), put(17, 302, "cc", strings.Repeat("yes", 9)),
		made, gone(20, 303, "b"), put(1000, 304, "a", ""), gone(1001, 1<<45, strings.Repeat("d", 64)),
	}
}

// placed is records as they lie behind a segment's head.
func placed(list []api.Record) []api.Placed {
	var l []api.Placed
	at := 21
	for _, r := range list {
		l = append(l, api.Placed{Rec: r, Pos: at, Len: record.Size(r)})
		at += record.Size(r)
	}
	return l
}

// sizeOf is how many bytes a sealed segment has with such records.
func sizeOf(list []api.Record) int {
	size := 21 + 17
	for _, r := range list {
		size += record.Size(r)
	}
	return size
}

// slowOf is the hint of a segment's records as the chapter tells it: those with none of their key behind them.
func slowOf(seg, size int, recs []api.Placed) api.Hint {
	h := api.Hint{Seg: seg, Size: size}
	for i, p := range recs {
		if !slices.ContainsFunc(recs[i+1:], func(q api.Placed) bool { return q.Rec.Key == p.Rec.Key }) {
			h.Entries = append(h.Entries, api.HintEntry{Key: p.Rec.Key, Off: p.Rec.Offset, Time: p.Rec.Time, Dead: p.Rec.Kind == 2, Pos: p.Pos, Len: p.Len})
		}
	}
	return h
}

// fewHint is the hint of the segment 7 with a few records.
func fewHint() api.Hint { return slowOf(7, sizeOf(few()), placed(few())) }

func within(n, least, most int64) bool { return least <= n && n <= most }

// slowRight tells whether a hint is right, as the chapter tells it.
func slowRight(h api.Hint) bool {
	ok := within(int64(h.Seg), 0, lastId) && within(int64(h.Size), 38, 65536)
	for i, e := range h.Entries {
		end := new(big.Int).Add(big.NewInt(int64(e.Pos)), big.NewInt(int64(e.Len)))
		ok = ok && within(int64(len(e.Key)), 1, 64) && within(e.Off, 0, lastOffset) && within(e.Time, 0, lastTime) &&
			within(int64(e.Len), 14, 1124) && e.Pos >= 21 && end.Cmp(big.NewInt(int64(h.Size)-17)) <= 0
		for k, other := range h.Entries[:i] {
			ok = ok && other.Key != e.Key
			if k == i-1 {
				ok = ok && e.Off > other.Off && e.Pos >= other.Pos+other.Len
			}
		}
	}
	return ok
}

// numbered is texts and numbers as a body has them.
func numbered(parts ...any) []byte {
	var b []byte
	for _, p := range parts {
		switch x := p.(type) {
		case int:
			b = binary.AppendUvarint(b, uint64(x))
		case uint64:
			b = binary.AppendUvarint(b, x)
		case string:
			b = append(binary.AppendUvarint(b, uint64(len(x))), x...)
		case []byte:
			b = append(b, x...)
		default:
			panic(fmt.Sprintf("%T", p))
		}
	}
	return b
}

// slowBody writes a hint's body as the chapter tells it.
func slowBody(h api.Hint) []byte {
	b := numbered(h.Seg, h.Size, len(h.Entries))
	off, end := int64(-1), 21
	for _, e := range h.Entries {
		long := 2 * e.Len
		if e.Dead {
			long++
		}
		b = append(b, numbered(uint64(e.Off-off), uint64(e.Time), e.Pos-end, long, e.Key)...)
		off, end = e.Off, e.Pos+e.Len
	}
	return b
}

func castagnoli(b []byte) uint32 { return crc32.Checksum(b, crc32.MakeTable(crc32.Castagnoli)) }

// framed is a body behind a mark, a length and the right sum of both.
func framed(mark byte, length uint32, body []byte) []byte {
	n := binary.BigEndian.AppendUint32(nil, length)
	b := append([]byte{mark}, n...)
	b = binary.BigEndian.AppendUint32(b, castagnoli(append(n, body...)))
	return append(b, body...)
}

// fileOf is the bytes of a hint with such a body.
func fileOf(body []byte) []byte { return framed(0xb1, uint32(len(body)), body) }

func slowEncode(h api.Hint) []byte { return fileOf(slowBody(h)) }

// segmentBytes is the bytes of a segment that was filled and sealed.
func segmentBytes(t *testing.T, topic, number int, list []api.Record, sealed bool) []byte {
	t.Helper()
	d := disk(t)
	fillSegment(t, d, topic, number, list, sealed)
	return d.Image()[0].Data
}

// fillSegment makes a segment.
func fillSegment(t *testing.T, d *simfs.Disk, topic, number int, list []api.Record, sealed bool) *segment.Segment {
	t.Helper()
	s, e := segment.Create(d, topic, number, 0, 65536)
	if s == nil || e != api.OK {
		t.Fatalf("segment.Create = %v, %d", s, e)
	}
	for _, r := range list {
		if at, e := s.Append(r); e != api.OK {
			t.Fatalf("Append of offset %d = %d, %d", r.Offset, at, e)
		}
	}
	if sealed {
		want(t, "Seal", s.Seal(), api.OK)
	}
	return s
}

func disk(t *testing.T) *simfs.Disk {
	t.Helper()
	d, e := simfs.New(1 << 20)
	if e != api.OK {
		t.Fatalf("New: %d", e)
	}
	return d
}

// holding is a disk with such files, each of them a name and its bytes.
func holding(t *testing.T, files map[string][]byte) *simfs.Disk {
	t.Helper()
	var image []api.File
	for name, b := range files {
		image = append(image, api.File{Name: name, Data: b})
	}
	slices.SortFunc(image, func(a, b api.File) int { return strings.Compare(a.Name, b.Name) })
	d, e := simfs.Load(image, 1<<20)
	if e != api.OK {
		t.Fatalf("Load: %d", e)
	}
	return d
}

// both is a disk with the segment 7 of topic 3, sealed, and its hint.
func both(t *testing.T) *simfs.Disk {
	t.Helper()
	return holding(t, map[string][]byte{segFile: segmentBytes(t, 3, 7, few(), true), hintFile: slowEncode(fewHint())})
}

// seen is the bytes of a file on a disk, with or without power, and whether it is there.
func seen(d *simfs.Disk, name string) ([]byte, bool) { return inImage(d.Image(), name) }

func inImage(image []api.File, name string) ([]byte, bool) {
	for _, f := range image {
		if f.Name == name {
			return f.Data, true
		}
	}
	return nil, false
}

func sameImage(a, b []api.File) bool {
	return slices.EqualFunc(a, b, func(f, g api.File) bool { return f.Name == g.Name && bytes.Equal(f.Data, g.Data) })
}

func sameHint(a, b api.Hint) bool {
	return a.Seg == b.Seg && a.Size == b.Size && slices.Equal(a.Entries, b.Entries)
}

// brief tells a hint, cut short.
func brief(h api.Hint) string {
	return fmt.Sprintf("{%d, %d bytes, %d entries, %.300q}", h.Seg, h.Size, len(h.Entries), fmt.Sprint(h.Entries))
}

// want fails if an answer is another one than is wanted.
func want[T comparable](t *testing.T, what string, got, wanted T) {
	t.Helper()
	if got != wanted {
		t.Errorf("%s: %v, want %v", what, got, wanted)
	}
}

func wantHint(t *testing.T, what string, got, wanted api.Hint) {
	t.Helper()
	if !sameHint(got, wanted) {
		t.Errorf("%s: %s, want %s", what, brief(got), brief(wanted))
	}
}

// wantBytes fails unless a hint is taken and has just these bytes, and these give it back.
func wantBytes(t *testing.T, what string, h api.Hint, b []byte) {
	t.Helper()
	if got, e := hint.Encode(h); e != api.OK || !bytes.Equal(got, b) {
		t.Errorf("%s: Encode(%s) = %.60x, %d, want %.60x", what, brief(h), got, e, b)
	}
	if got, e := hint.Decode(b); e != api.OK || !sameHint(got, h) {
		t.Errorf("%s: Decode(%.60x) = %s, %d, want %s", what, b, brief(got), e, brief(h))
	}
}

// wantWrong fails unless a hint is refused.
func wantWrong(t *testing.T, what string, h api.Hint) {
	t.Helper()
	if b, e := hint.Encode(h); e != api.ErrHint || len(b) != 0 {
		t.Errorf("%s: Encode(%s) = %.60x, %d", what, brief(h), b, e)
	}
}

// wantNone fails unless bytes are refused.
func wantNone(t *testing.T, what string, b []byte) {
	t.Helper()
	if h, e := hint.Decode(b); e != api.ErrHint || !sameHint(h, api.Hint{}) {
		t.Errorf("%s: Decode(%.60x) = %s, %d", what, b, brief(h), e)
	}
}

// unlike is a text of n bytes that squeezing does not make shorter.
func unlike(n int) string { return probe.Text(11, n) }

// walk is a segment's records by its Places.
func walk(s *segment.Segment) []api.Placed {
	var l []api.Placed
	for at, r := range s.Places(0) {
		l = append(l, api.Placed{Rec: r, Pos: at, Len: record.Size(r)})
	}
	return l
}

// fillByNoise appends records of any kind to a segment, till it is full or they are at their end.
func fillByNoise(s *segment.Segment, seed uint64) {
	off, time := int64(0), int64(seed%3)<<48
	for _, x := range probe.Noise(seed, int(seed*seed%2000)) {
		off += 1 + int64(x>>8%3)<<(x>>12%20)
		time += int64(x >> 20 % 50)
		r := put(off, time, strings.Repeat("k", int(x>>28%3))+fmt.Sprint(x>>32%(1+seed*5)), probe.Text(x, int(x>>40%200)))
		if x>>44%4 == 0 {
			r = gone(off, time, r.Key)
		}
		if _, e := s.Append(r); e != api.OK {
			return
		}
	}
}

// sealedBy is the bytes of the segment 7 of topic 3 with such records, however many they are.
func sealedBy(list []api.Record) []byte {
	b := binary.BigEndian.AppendUint32([]byte{0xad}, 3)
	b = binary.BigEndian.AppendUint32(b, 7)
	b = binary.BigEndian.AppendUint64(b, 0)
	b = binary.BigEndian.AppendUint32(b, castagnoli(b))
	for _, r := range list {
		one, _ := record.Encode(r)
		b = append(b, one...)
	}
	b = binary.BigEndian.AppendUint32(append(b, 0xae), uint32(len(list)))
	b = binary.BigEndian.AppendUint64(b, uint64(list[len(list)-1].Offset))
	return binary.BigEndian.AppendUint32(b, castagnoli(b))
}
