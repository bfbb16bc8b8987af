package segment_test

import (
	"bytes"
	"fmt"
	"math"
	"testing"

	"chronicle/api"
	"chronicle/record"
	"chronicle/segment"
	"chronicle/simfs"
)

func wantPlace(t *testing.T, s *segment.Segment, at int) {
	t.Helper()
	if r, e := s.Read(at); r != (api.Record{}) || e != api.ErrPlace {
		t.Errorf("Read(%d) = %s, %d, want ErrPlace", at, brief(r), e)
	}
}

// 5.8
func TestRead(t *testing.T) {
	_, s := filled(t)
	sealedDisk := holding(t, whole(few(), true))
	for _, s := range []*segment.Segment{s, open(t, sealedDisk)} {
		at := map[int]api.Record{}
		for _, p := range placed(few()) {
			at[p.Pos] = p.Rec
		}
		for i := -2; i < s.Info().Size+40; i++ {
			r, is := at[i]
			if !is {
				wantPlace(t, s, i)
				continue
			}
			if got, e := s.Read(i); got != r || e != api.OK {
				t.Errorf("Read(%d) = %s, %d, want %s", i, brief(got), e, brief(r))
			}
		}
		for _, i := range []int{math.MinInt, math.MaxInt, 1 << 32, 1<<32 + 21} {
			wantPlace(t, s, i)
		}
	}
	want(t, "operations", sealedDisk.Ops(), 1)
	empty := create(t, disk(t), 256)
	for i := range 60 {
		wantPlace(t, empty, i)
	}
}

// A value may hold the bytes of a record: that is none of the segment's.
func TestReadWithinARecord(t *testing.T) {
	inner, _ := record.Encode(put(50, "in", "ner"))
	d := disk(t)
	s := create(t, d, 256)
	add(t, s, put(10, "k", string(inner)))
	at := bytes.Index(seen(d), inner)
	if got, _, e := record.Decode(seen(d)[at:]); e != api.OK || got.Key != "in" {
		t.Fatalf("no record within the record, at %d", at)
	}
	wantPlace(t, s, at)
	wantPlace(t, open(t, d), at)
}

func TestReadTellsTheFirstError(t *testing.T) {
	var none *segment.Segment
	if r, e := none.Read(21); r != (api.Record{}) || e != api.ErrNil {
		t.Errorf("a nil segment: %v, %d", r, e)
	}
	d, s := filled(t)
	d.Fuse(0)
	d.SyncDir()
	wantPlace(t, s, 22)
	if r, e := s.Read(21); r != (api.Record{}) || e != api.ErrDead {
		t.Errorf("no power: %v, %d", r, e)
	}
	d, s = filled(t)
	d.Remove(file)
	wantPlace(t, s, 0)
	if r, e := s.Read(21); r != (api.Record{}) || e != api.ErrNoFile {
		t.Errorf("no file: %v, %d", r, e)
	}
}

// What was refused is at no place.
func TestReadOfWhatWasRefused(t *testing.T) {
	d, s := filled(t)
	end := s.Info().Size
	d.SetQuota(d.Used())
	s.Append(put(50, "k", "v"))
	wantPlace(t, s, end)
	s.Seal()
	wantPlace(t, s, end)
	wantPlace(t, s, end+17)
}

// 5.9
func TestPlaces(t *testing.T) {
	_, s := filled(t)
	sealed := open(t, holding(t, whole(few(), true)))
	all := placed(few())
	for _, s := range []*segment.Segment{s, sealed} {
		for from := -30; from < s.Info().Size+40; from++ {
			var l []api.Placed
			for _, p := range all {
				if p.Pos >= from {
					l = append(l, p)
				}
			}
			want(t, fmt.Sprint("Places from ", from), fmt.Sprint(walk(s, from)), fmt.Sprint(l))
		}
		want(t, "from far below", len(walk(s, math.MinInt)), len(all))
		want(t, "from far behind", len(walk(s, math.MaxInt)), 0)
	}
	want(t, "without records", len(walk(create(t, disk(t), 256), 0)), 0)
	var none *segment.Segment
	for _, from := range []int{math.MinInt, 0, 21, math.MaxInt} {
		want(t, "of nil", len(walk(none, from)), 0)
	}
}

func TestPlacesLeftEarlyAndBegunAnew(t *testing.T) {
	_, s := filled(t)
	all := placed(few())
	seq := s.Places(all[1].Pos)
	for n := 1; n < len(all); n++ {
		var l []api.Placed
		for at, r := range seq {
			l = append(l, api.Placed{Rec: r, Pos: at, Len: record.Size(r)})
			if len(l) == n {
				break
			}
		}
		want(t, fmt.Sprint("left behind ", n), fmt.Sprint(l), fmt.Sprint(all[1:1+n]))
	}
	// Two that are gone through at the same time do not know of each other.
	pairs := 0
	for a := range seq {
		for b := range seq {
			if a == b {
				pairs++
			}
		}
	}
	want(t, "pairs", pairs, len(all)-1)
}

func TestPlacesGivesWhatIsAppendedMeanwhile(t *testing.T) {
	d := disk(t)
	s := create(t, d, 65536)
	list := few()
	seq := s.Places(0) // there is nothing yet
	add(t, s, list[0])
	var l []api.Placed
	for at, r := range seq {
		l = append(l, api.Placed{Rec: r, Pos: at, Len: record.Size(r)})
		if n := s.Info().Count; n < len(list) {
			add(t, s, list[n])
		} else {
			s.Seal()
		}
	}
	want(t, "appended meanwhile", fmt.Sprint(l), fmt.Sprint(placed(list)))
	want(t, "Info", s.Info(), told(list, true))
	want(t, "begun anew", fmt.Sprint(walk(s, 0)), fmt.Sprint(placed(list)))

	// A place at which none stands yet may have one when it is gone through.
	s = create(t, disk(t), 65536)
	add(t, s, list[0])
	seq = s.Places(s.Info().Size)
	add(t, s, list[1])
	n := 0
	for _, r := range seq {
		want(t, "the record at the former end", r, list[1])
		n++
	}
	want(t, "records", n, 1)
}

// Each record is read when it is given: to call Places reads none, and the power may go in the midst.
func TestPlacesReadsOneByOne(t *testing.T) {
	all := placed(few())
	for n := range all {
		d, s := filled(t)
		seq := s.Places(0)
		var l []api.Placed
		if n == 0 {
			cutPower(d)
		}
		for at, r := range seq {
			l = append(l, api.Placed{Rec: r, Pos: at, Len: record.Size(r)})
			if len(l) == n {
				cutPower(d)
			}
		}
		want(t, fmt.Sprint("power for ", n), fmt.Sprint(l), fmt.Sprint(all[:n:n]))
	}
	d, s := filled(t)
	d.Remove(file)
	want(t, "no file", len(walk(s, 0)), 0)
	d, s = filled(t)
	for range s.Places(0) {
		d.Remove(file)
	}
}

func cutPower(d *simfs.Disk) {
	d.Fuse(0)
	d.SyncDir()
}

// 5.10
func TestInfo(t *testing.T) {
	var none *segment.Segment
	want(t, "Info of nil", none.Info(), api.SegInfo{})
	d := disk(t)
	s := create(t, d, 65536)
	want(t, "without records", s.Info(), told(nil, false))
	for i, r := range few() {
		add(t, s, r)
		want(t, "Info", s.Info(), told(few()[:i+1], false))
		s.Sync()
		want(t, "synced", s.Info(), told(few()[:i+1], false))
	}
	s.Seal()
	want(t, "sealed", s.Info(), told(few(), true))
	cutPower(d)
	want(t, "without power", s.Info(), told(few(), true))
}

// Where somebody else changes the file nothing is promised but that nothing panics.
func TestFilesThatOthersChange(t *testing.T) {
	for name, change := range map[string]func(d *simfs.Disk){
		"cut to nothing":  func(d *simfs.Disk) { d.Truncate(file, 0) },
		"cut in a record": func(d *simfs.Disk) { d.Truncate(file, 40) },
		"gone on with":    func(d *simfs.Disk) { d.Append(file, []byte("anything")) },
		"removed":         func(d *simfs.Disk) { d.Remove(file) },
		"another one": func(d *simfs.Disk) {
			d.Remove(file)
			d.Create(file)
			d.Append(file, bytes.Repeat([]byte{0xa9}, 500))
		},
	} {
		d, s := filled(t)
		change(d)
		for at := range 200 {
			s.Read(at)
			walk(s, at)
		}
		s.Append(put(50, "k", "v"))
		s.Sync()
		s.Seal()
		walk(s, 0)
		if r, e := s.Read(52); e != api.OK && r != (api.Record{}) {
			t.Errorf("%s: beside the error %d stands %s", name, e, brief(r))
		}
		if s, e := segment.Open(d, 3, 7, 256); (s == nil) == (e == api.OK) {
			t.Errorf("%s: Open = %v, %d", name, s, e)
		}
	}
	zero := &segment.Segment{}
	for _, r := range few() {
		zero.Append(r)
	}
	zero.Sync()
	zero.Seal()
	zero.Read(0)
	zero.Read(21)
	want(t, "a zero segment", len(walk(zero, 0)), 0)
}
