package segment_test

import (
	"bytes"
	"fmt"
	"strings"
	"testing"

	"chronicle/api"
	"chronicle/probe"
	"chronicle/record"
	"chronicle/segment"
	"chronicle/simfs"
)

// model is a segment as the chapter tells it, with all of its records.
type model struct {
	list   []api.Record
	sealed bool
	limit  int
}

func (m *model) last() int64 { return told(m.list, false).Last }

// append is what Append answers, if the disk has so much room.
func (m *model) append(r api.Record, room int) (int, api.Errno) {
	size := len(whole(m.list, m.sealed))
	check := record.Check(r)
	switch {
	case m.sealed:
		return 0, api.ErrSealed
	case check != api.OK:
		return 0, check
	case r.Offset <= m.last():
		return 0, api.ErrOrder
	case len(m.list) > 0 && size+record.Size(r)+17 > m.limit:
		return 0, api.ErrRoll
	case record.Size(r) > room:
		return 0, api.ErrSpace
	}
	m.list = append(m.list, r)
	return size, api.OK
}

func (m *model) seal(room int) api.Errno {
	if m.sealed {
		return api.ErrSealed
	}
	if room < 17 {
		return api.ErrSpace
	}
	m.sealed = true
	return api.OK
}

// anyRecord is a record that is often right, and often one that may come next.
func anyRecord(x uint64, last int64) api.Record {
	r := put(last+int64(x>>4%6)-1, string([]byte{byte('a' + x>>8%5)}), probe.Text(x, int(x>>16%30)))
	switch x >> 24 % 24 {
	case 0:
		r.Key = ""
	case 1, 2, 3:
		r = gone(r.Offset, r.Key)
	case 4:
		r.Kind = 3
	case 5, 6:
		r.Value = strings.Repeat(r.Key, int(x>>30%1030))
	case 7, 8:
		r.Value = probe.Text(x, int(x>>30%300))
	case 9:
		r.Kind = api.KTombstone // mostly with a value
	case 10, 11:
		r.Pid, r.Seq = 5, int64(x>>30%4)
	}
	return r
}

// step does one thing to both, and fails unless they answer the same.
func step(t *testing.T, d *simfs.Disk, s *segment.Segment, m *model, x uint64) (*segment.Segment, api.Errno) {
	t.Helper()
	room := d.Quota() - d.Used()
	switch x % 16 {
	case 0:
		d.SetQuota(d.Used() + int(x>>8%120))
	case 1:
		want(t, "Sync", s.Sync(), api.OK)
	case 2:
		if x>>8%3 > 0 {
			break
		}
		e := m.seal(room)
		want(t, "Seal", s.Seal(), e)
		return s, e
	case 3:
		m.limit = 256 + int(x>>8%2000)
		again, e := segment.Open(d, 3, 7, m.limit)
		want(t, "Open", e, api.OK)
		return again, e
	default:
		r := anyRecord(x, m.last())
		at, e := m.append(r, room)
		got, e2 := s.Append(r)
		want(t, "Append of "+brief(r), fmt.Sprint(got, e2), fmt.Sprint(at, e))
		return s, e
	}
	return s, api.OK
}

func TestAgainstTheModel(t *testing.T) {
	count := map[api.Errno]int{}
	for seed := range uint64(150) {
		d := disk(t)
		m := &model{limit: 256 + int(seed*7)}
		s := create(t, d, m.limit)
		for i, x := range probe.Noise(seed+1, 60) {
			var e api.Errno
			s, e = step(t, d, s, m, x>>3)
			count[e]++
			wantHolds(t, "the segment", s, told(m.list, m.sealed), m.list)
			if !bytes.Equal(seen(d), whole(m.list, m.sealed)) {
				t.Errorf("the file: %x", seen(d))
			}
			if t.Failed() {
				t.Fatalf("seed %d, step %d", seed, i)
			}
		}
	}
	for _, e := range []api.Errno{api.OK, api.ErrSealed, api.ErrKind, api.ErrNumber, api.ErrKey, api.ErrValue, api.ErrOrder, api.ErrRoll, api.ErrSpace} {
		if count[e] < 5 {
			t.Errorf("the error %d was told %d times", e, count[e])
		}
	}
}
