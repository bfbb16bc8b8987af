package segment_test

import (
	"bytes"
	"encoding/binary"
	"fmt"
	"hash/crc32"
	"math"
	"slices"
	"strings"
	"testing"

	"chronicle/api"
	"chronicle/probe"
	"chronicle/record"
	"chronicle/segment"
	"chronicle/simfs"
)

// file is the name of the segment that most tests use: the number 7 of topic 3.
const file = "t3.7.seg"

func put(off int64, key, v string) api.Record {
	return api.Record{Kind: api.KValue, Offset: off, Time: 5, Key: key, Value: v}
}

func gone(off int64, key string) api.Record {
	return api.Record{Kind: api.KTombstone, Offset: off, Time: 6, Key: key}
}

// few is some records from the offset 10 on, of each kind and with gaps between their offsets.
func few() []api.Record {
	made := put(18, "k", "made")
	made.Pid, made.Seq = 9, 300
	return []api.Record{put(12, "a", "x"), gone(13, "a"), put(17, "bb", strings.Repeat("yes", 9)), made, put(19, "c", "")}
}

// sized is a record of just n bytes, 15 to 1038.
func sized(off int64, n int) api.Record {
	r := put(off, "k", "")
	for size := record.Size(r); size < n; size = record.Size(r) {
		r.Value = probe.Text(3, len(r.Value)+n-size)
	}
	return r
}

func withSum(b []byte) []byte {
	return binary.BigEndian.AppendUint32(b, crc32.Checksum(b, crc32.MakeTable(crc32.Castagnoli)))
}

// slowHead writes a head as the chapter tells it, of any numbers.
func slowHead(topic, number uint32, base uint64) []byte {
	b := binary.BigEndian.AppendUint32([]byte{0xad}, topic)
	b = binary.BigEndian.AppendUint32(b, number)
	return withSum(binary.BigEndian.AppendUint64(b, base))
}

// head is that of the number 7 of topic 3, with the base 10.
func head() []byte { return slowHead(3, 7, 10) }

// slowTail writes a tail with any numbers behind bytes.
func slowTail(b []byte, count uint32, last uint64) []byte {
	b = binary.BigEndian.AppendUint32(append(bytes.Clone(b), 0xae), count)
	return withSum(binary.BigEndian.AppendUint64(b, last))
}

// laid is bytes with those of records behind them.
func laid(b []byte, list ...api.Record) []byte {
	b = bytes.Clone(b)
	for _, r := range list {
		one, _ := record.Encode(r)
		b = append(b, one...)
	}
	return b
}

// placed is records as they lie behind a head.
func placed(list []api.Record) []api.Placed {
	var l []api.Placed
	at := 21
	for _, r := range list {
		l = append(l, api.Placed{Rec: r, Pos: at, Len: record.Size(r)})
		at += record.Size(r)
	}
	return l
}

// told is what the segment 7 of topic 3 with the base 10 says of itself with such records.
func told(list []api.Record, sealed bool) api.SegInfo {
	info := api.SegInfo{Topic: 3, Number: 7, Base: 10, Size: len(laid(head(), list...)), Count: len(list), Last: 9, Sealed: sealed}
	if len(list) > 0 {
		info.Last = list[len(list)-1].Offset
	}
	if sealed {
		info.Size += 17
	}
	return info
}

// whole is the bytes of the segment 7 of topic 3 with the base 10 and such records.
func whole(list []api.Record, sealed bool) []byte {
	b := laid(head(), list...)
	if sealed {
		b = slowTail(b, uint32(len(list)), uint64(told(list, false).Last))
	}
	return b
}

func disk(t *testing.T) *simfs.Disk {
	t.Helper()
	d, e := simfs.New(1 << 20)
	if e != api.OK {
		t.Fatalf("New: %d", e)
	}
	return d
}

// holding is a disk on which the segment 7 of topic 3 has such bytes.
func holding(t *testing.T, b []byte) *simfs.Disk {
	t.Helper()
	d, e := simfs.Load([]api.File{{Name: file, Data: b}}, 1<<20)
	if e != api.OK {
		t.Fatalf("Load: %d", e)
	}
	return d
}

// create makes the segment 7 of topic 3 with the base 10.
func create(t *testing.T, d *simfs.Disk, limit int) *segment.Segment {
	t.Helper()
	s, e := segment.Create(d, 3, 7, 10, limit)
	if s == nil || e != api.OK {
		t.Fatalf("Create = %v, %d", s, e)
	}
	return s
}

// open opens the segment 7 of topic 3.
func open(t *testing.T, d *simfs.Disk) *segment.Segment {
	t.Helper()
	s, e := segment.Open(d, 3, 7, 65536)
	if s == nil || e != api.OK {
		t.Fatalf("Open = %v, %d", s, e)
	}
	return s
}

// filled is the segment 7 of topic 3 with a few records, on a new disk.
func filled(t *testing.T) (*simfs.Disk, *segment.Segment) {
	t.Helper()
	d := disk(t)
	s := create(t, d, 65536)
	for _, r := range few() {
		add(t, s, r)
	}
	return d, s
}

// add appends a record that has to be taken.
func add(t *testing.T, s *segment.Segment, r api.Record) int {
	t.Helper()
	at, e := s.Append(r)
	if e != api.OK {
		t.Fatalf("Append(%s) = %d, %d", brief(r), at, e)
	}
	return at
}

// seen is the bytes of the segment 7 of topic 3 on a disk, with or without power.
func seen(d *simfs.Disk) []byte {
	for _, f := range d.Image() {
		if f.Name == file {
			return f.Data
		}
	}
	return nil
}

// brief tells a record, its texts cut short.
func brief(r api.Record) string {
	return fmt.Sprintf("{kind %d at %d, %.10q: %.20q, %d bytes}", r.Kind, r.Offset, r.Key, r.Value, record.Size(r))
}

// want fails if an answer is another one than is wanted.
func want[T comparable](t *testing.T, what string, got, wanted T) {
	t.Helper()
	if got != wanted {
		t.Errorf("%s: %v, want %v", what, got, wanted)
	}
}

// wantRefused fails if a segment was made all the same, or another error is told.
func wantRefused(t *testing.T, what string, s *segment.Segment, e, wanted api.Errno) {
	t.Helper()
	if s != nil || e != wanted {
		t.Errorf("%s: %v, %d, want no segment, %d", what, s, e, wanted)
	}
}

// wantHolds fails unless a segment holds just these records, by all that can be asked of it.
func wantHolds(t *testing.T, what string, s *segment.Segment, info api.SegInfo, list []api.Record) {
	t.Helper()
	want(t, what+": Info", s.Info(), info)
	l := placed(list)
	want(t, what+": Places", fmt.Sprint(walk(s, math.MinInt)), fmt.Sprint(l))
	for _, p := range l {
		if r, e := s.Read(p.Pos); r != p.Rec || e != api.OK {
			t.Errorf("%s: Read(%d) = %s, %d, want %s", what, p.Pos, brief(r), e, brief(p.Rec))
		}
	}
}

// walk is what Places gives from a place on.
func walk(s *segment.Segment, from int) []api.Placed {
	var l []api.Placed
	for at, r := range s.Places(from) {
		l = append(l, api.Placed{Rec: r, Pos: at, Len: record.Size(r)})
	}
	return l
}

func wantLook(t *testing.T, what string, b []byte, info api.SegInfo, list []api.Record, spot api.Spot) {
	t.Helper()
	i, l, s := segment.Look(b)
	if i != info || !slices.Equal(l, placed(list)) || s != spot {
		t.Errorf("%s: Look(%.60x) = %v, %d records, %v, want %v, %d records, %v", what, b, i, len(l), s, info, len(list), spot)
	}
}
