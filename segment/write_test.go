package segment_test

import (
	"bytes"
	"fmt"
	"math"
	"strings"
	"testing"

	"chronicle/api"
	"chronicle/probe"
	"chronicle/record"
	"chronicle/segment"
)

// refusedRecord fails if a record is taken, if another error is told, or if the segment or its file is changed.
func refusedRecord(t *testing.T, what string, s *segment.Segment, bytesOf func() []byte, r api.Record, wanted api.Errno) {
	t.Helper()
	info, b, l := s.Info(), bytesOf(), walk(s, 0)
	at, e := s.Append(r)
	if at != 0 || e != wanted {
		t.Errorf("%s: Append = %d, %d, want 0, %d", what, at, e, wanted)
	}
	if s.Info() != info || !bytes.Equal(bytesOf(), b) || fmt.Sprint(walk(s, 0)) != fmt.Sprint(l) {
		t.Errorf("%s: something is changed", what)
	}
}

// 5.5
func TestAppend(t *testing.T) {
	d := disk(t)
	s := create(t, d, 65536)
	list := few()
	ops := d.Ops()
	for i, p := range placed(list) {
		want(t, "Append", add(t, s, p.Rec), p.Pos)
		want(t, "operations", d.Ops(), ops+i+1)
		if !bytes.Equal(seen(d), whole(list[:i+1], false)) {
			t.Errorf("%d records: %x", i+1, seen(d))
		}
		wantHolds(t, fmt.Sprint(i+1, " records"), s, told(list[:i+1], false), list[:i+1])
	}
}

func TestAppendWantsRisingOffsets(t *testing.T) {
	d := disk(t)
	s := create(t, d, 65536)
	look := func() []byte { return seen(d) }
	for _, off := range []int64{0, 8, 9} {
		refusedRecord(t, "below the base", s, look, put(off, "k", "v"), api.ErrOrder)
	}
	want(t, "at the base", add(t, s, put(10, "k", "v")), 21)
	for _, off := range []int64{0, 9, 10} {
		refusedRecord(t, "not above the last", s, look, put(off, "k", "v"), api.ErrOrder)
	}
	want(t, "one above", add(t, s, put(11, "k", "v")), 36)
	want(t, "the greatest", add(t, s, put(1<<40-1, "k", "v")), 51)
	refusedRecord(t, "the greatest again", s, look, put(1<<40-1, "k", "v"), api.ErrOrder)

	s, _ = segment.Create(d, 1, 1, 1<<40, 256)
	refusedRecord(t, "the greatest base", s, look, put(1<<40-1, "k", "v"), api.ErrOrder)
	s, _ = segment.Create(d, 1, 2, 0, 256)
	want(t, "the offset 0", add(t, s, put(0, "k", "v")), 21)
}

func TestAppendWantsRightRecords(t *testing.T) {
	d, s := filled(t)
	look := func() []byte { return seen(d) }
	for wanted, r := range map[api.Errno]api.Record{
		api.ErrKind:   {Kind: 3, Offset: -1},
		api.ErrNumber: put(-1, "", ""),
		api.ErrKey:    put(1, "", strings.Repeat("v", 1025)),
		api.ErrValue:  put(1, "k", strings.Repeat("v", 1025)),
	} {
		refusedRecord(t, "no record", s, look, r, wanted)
	}
	refusedRecord(t, "an offset too great", s, look, put(1<<40, "k", "v"), api.ErrNumber)
	odd := gone(30, "k")
	odd.Value = "v"
	refusedRecord(t, "a tombstone with a value", s, look, odd, api.ErrValue)
	refusedRecord(t, "an empty one", s, look, api.Record{}, api.ErrKind)
}

func TestAppendTellsTheFirstError(t *testing.T) {
	var none *segment.Segment
	at, e := none.Append(api.Record{})
	if at != 0 || e != api.ErrNil {
		t.Errorf("a nil segment: %d, %d", at, e)
	}
	d := disk(t)
	s := create(t, d, 256)
	look := func() []byte { return seen(d) }
	add(t, s, sized(20, 200))
	d.SetQuota(0)
	refusedRecord(t, "not right, not rising, too long, no room", s, look, put(5, "", strings.Repeat("v", 1000)), api.ErrKey)
	refusedRecord(t, "not rising, too long, no room", s, look, sized(20, 1000), api.ErrOrder)
	refusedRecord(t, "too long, no room", s, look, sized(21, 1000), api.ErrRoll)
	refusedRecord(t, "no room", s, look, sized(21, 15), api.ErrSpace)
	d.SetQuota(1000)
	want(t, "Seal", s.Seal(), api.OK)
	refusedRecord(t, "sealed, and all of these", s, look, put(5, "", strings.Repeat("v", 1000)), api.ErrSealed)

	dead, s := filled(t)
	dead.Fuse(0)
	dead.SyncDir()
	for _, c := range []struct {
		r api.Record
		e api.Errno
	}{{put(5, "", ""), api.ErrKey}, {put(5, "k", ""), api.ErrOrder}, {put(50, "k", ""), api.ErrDead}} {
		if at, e := s.Append(c.r); at != 0 || e != c.e {
			t.Errorf("no power: Append(%s) = %d, %d, want %d", brief(c.r), at, e, c.e)
		}
	}
	want(t, "Info", s.Info(), told(few(), false))
}

// A first record may have any size; the tail has to have room behind a further one.
func TestAppendKeepsTheLimit(t *testing.T) {
	for _, limit := range []int{256, 257, 300, 1000, 65536} {
		for _, first := range []int{15, 100, 200, 217, 218, 219, 300} {
			room := limit - 21 - first - 17
			for _, size := range []int{15, room - 1, room, room + 1, room + 2, 1000} {
				if size < 15 || size > 1000 {
					continue
				}
				d := disk(t)
				s := create(t, d, limit)
				add(t, s, sized(10, first))
				r := sized(11, size)
				if record.Size(r) != size {
					t.Fatalf("a record of %d bytes has %d", size, record.Size(r))
				}
				if size > room {
					refusedRecord(t, "too long", s, func() []byte { return seen(d) }, r, api.ErrRoll)
					continue
				}
				add(t, s, r)
				s.Seal()
				if s.Info().Size > limit || s.Info().Size != len(seen(d)) {
					t.Errorf("a limit of %d: sealed %d", limit, s.Info().Size)
				}
			}
		}
	}
}

func TestAppendTakesAnyFirstRecord(t *testing.T) {
	for _, r := range []api.Record{put(10, "k", probe.Text(1, 1024)), sized(10, 219), sized(10, 1024), put(10, strings.Repeat("k", 64), probe.Text(2, 1024))} {
		d := disk(t)
		s := create(t, d, 256)
		want(t, "Append", add(t, s, r), 21)
		refusedRecord(t, "any other", s, func() []byte { return seen(d) }, put(11, "k", ""), api.ErrRoll)
		want(t, "Seal", s.Seal(), api.OK)
		wantHolds(t, "one record", open(t, d), told([]api.Record{r}, true), []api.Record{r})
	}
	// Opened without records, it is without records still.
	d := holding(t, head())
	s, _ := segment.Open(d, 3, 7, 256)
	want(t, "Append", add(t, s, sized(10, 1000)), 21)
	s, _ = segment.Open(d, 3, 7, 256)
	refusedRecord(t, "opened with one", s, func() []byte { return seen(d) }, put(11, "k", ""), api.ErrRoll)
}

func TestAppendWithoutRoom(t *testing.T) {
	d, s := filled(t)
	r := sized(20, 40)
	d.SetQuota(d.Used() + 39)
	refusedRecord(t, "no room", s, func() []byte { return seen(d) }, r, api.ErrSpace)
	d.SetQuota(d.Used() + 40)
	want(t, "with room", add(t, s, r), told(few(), false).Size)
	wantHolds(t, "with room", s, told(append(few(), r), false), append(few(), r))
}

func TestAppendWithoutPower(t *testing.T) {
	d, s := filled(t)
	d.Fuse(0)
	at, e := s.Append(put(20, "k", "v"))
	if at != 0 || e != api.ErrDead || s.Info() != told(few(), false) || !bytes.Equal(seen(d), whole(few(), false)) {
		t.Errorf("Append = %d, %d; %v", at, e, s.Info())
	}
}

// 5.6
func TestSync(t *testing.T) {
	var none *segment.Segment
	want(t, "Sync of nil", none.Sync(), api.ErrNil)
	d, s := filled(t)
	d.SyncDir()
	want(t, "durable ahead of it", len(d.Crash(nil)[0].Data), 21)
	ops := d.Ops()
	want(t, "Sync", s.Sync(), api.OK)
	want(t, "operations", d.Ops(), ops+1)
	if b := d.Crash(nil)[0].Data; !bytes.Equal(b, whole(few(), false)) {
		t.Errorf("durable behind it: %x", b)
	}
	want(t, "Info", s.Info(), told(few(), false))
	want(t, "Seal", s.Seal(), api.OK)
	want(t, "Sync of a sealed one", s.Sync(), api.OK)
	d.Fuse(0)
	want(t, "Sync without power", s.Sync(), api.ErrDead)
	want(t, "once more", s.Sync(), api.ErrDead)

	d, s = filled(t)
	d.Remove(file)
	want(t, "Sync without the file", s.Sync(), api.ErrNoFile)
}

// 5.7
func TestSeal(t *testing.T) {
	for _, list := range [][]api.Record{nil, few()[:1], few()} {
		d := disk(t)
		s := create(t, d, 65536)
		for _, r := range list {
			add(t, s, r)
		}
		d.SyncDir()
		ops := d.Ops()
		want(t, "Seal", s.Seal(), api.OK)
		want(t, "operations", d.Ops(), ops+2)
		wantHolds(t, "sealed", s, told(list, true), list)
		if b := d.Crash(nil)[0].Data; !bytes.Equal(b, whole(list, true)) {
			t.Errorf("%d records, sealed: %x", len(list), b)
		}
		want(t, "Seal again", s.Seal(), api.ErrSealed)
		want(t, "Info", s.Info(), told(list, true))
		want(t, "operations", d.Ops(), ops+2)
	}
	var none *segment.Segment
	want(t, "Seal of nil", none.Seal(), api.ErrNil)
}

func TestSealWithTheLeastAndTheGreatestBase(t *testing.T) {
	for base, last := range map[int64]uint64{0: math.MaxUint64, 1: 0, 1 << 40: 1<<40 - 1} {
		d := disk(t)
		s, _ := segment.Create(d, 3, 7, base, 256)
		want(t, "Seal", s.Seal(), api.OK)
		if !bytes.Equal(seen(d), slowTail(slowHead(3, 7, uint64(base)), 0, last)) {
			t.Errorf("the base %d: %x", base, seen(d))
		}
		want(t, "Info", s.Info(), api.SegInfo{Topic: 3, Number: 7, Base: base, Size: 38, Last: base - 1, Sealed: true})
		want(t, "opened", open(t, d).Info(), s.Info())
	}
}

// What was opened is sealed as if it had been written at once.
func TestSealOfOpened(t *testing.T) {
	d := holding(t, whole(few()[:3], false))
	s := open(t, d)
	add(t, s, few()[3])
	s = open(t, d)
	add(t, s, few()[4])
	want(t, "Seal", s.Seal(), api.OK)
	if !bytes.Equal(seen(d), whole(few(), true)) {
		t.Errorf("sealed: %x", seen(d))
	}
	s = open(t, d)
	want(t, "Seal of a sealed one", s.Seal(), api.ErrSealed)
	_, e := s.Append(put(50, "k", "v"))
	want(t, "Append to a sealed one", e, api.ErrSealed)
}

func TestSealRefused(t *testing.T) {
	d, s := filled(t)
	d.SetQuota(d.Used() + 16)
	want(t, "Seal without room", s.Seal(), api.ErrSpace)
	wantHolds(t, "no room", s, told(few(), false), few())
	want(t, "the file", len(seen(d)), told(few(), false).Size)
	d.SetQuota(d.Used() + 17)
	want(t, "Seal with room", s.Seal(), api.OK)
	want(t, "Info", s.Info(), told(few(), true))

	d, s = filled(t)
	d.Fuse(0)
	want(t, "Seal without power", s.Seal(), api.ErrDead)
	want(t, "Info", s.Info(), told(few(), false))
	want(t, "again", s.Seal(), api.ErrDead)

	// The tail stands there, though it is not durable.
	d, s = filled(t)
	d.Fuse(1)
	want(t, "Seal without power for the sync", s.Seal(), api.ErrDead)
	want(t, "Info", s.Info(), told(few(), true))
	want(t, "again", s.Seal(), api.ErrSealed)
	if !bytes.Equal(seen(d), whole(few(), true)) {
		t.Errorf("the file: %x", seen(d))
	}

	d, s = filled(t)
	d.Remove(file)
	want(t, "Seal without the file", s.Seal(), api.ErrNoFile)
	want(t, "Info", s.Info(), told(few(), false))
}
