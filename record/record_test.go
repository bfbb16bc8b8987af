package record_test

import (
	"math"
	"strings"
	"testing"

	"chronicle/api"
	"chronicle/record"
)

func wantCheck(t *testing.T, r api.Record, want api.Errno) {
	t.Helper()
	if got := record.Check(r); got != want {
		t.Errorf("Check(%s) = %d, want %d", brief(r), got, want)
	}
}

// 4.1
func TestCheckTakes(t *testing.T) {
	for _, r := range right() {
		wantCheck(t, r, api.OK)
	}
}

func TestCheckKind(t *testing.T) {
	for _, kind := range []int{math.MinInt, -1, 0, 3, 4, 257, 258, math.MaxInt} {
		r := value(0, 0, "k", "")
		r.Kind = kind
		wantCheck(t, r, api.ErrKind)
	}
	wantCheck(t, api.Record{}, api.ErrKind)
}

func TestCheckNumbers(t *testing.T) {
	for _, c := range []struct {
		with       func(v int64, r api.Record) api.Record
		least, end int64
	}{
		{func(v int64, r api.Record) api.Record { r.Offset = v; return r }, 0, 1 << 40},
		{func(v int64, r api.Record) api.Record { r.Time = v; return r }, 0, 1 << 50},
		{func(v int64, r api.Record) api.Record { return by(v, 1, r) }, 1, 1 << 32},
		{func(v int64, r api.Record) api.Record { return by(1, v, r) }, 1, 1 << 40},
		{func(v int64, r api.Record) api.Record { return by(lastPid, v, r) }, 1, 1 << 40},
	} {
		for _, r := range []api.Record{value(3, 4, "k", "v"), tomb(3, 4, "k")} {
			for _, v := range []int64{c.least, 1, 2, c.end - 2, c.end - 1} {
				wantCheck(t, c.with(v, r), api.OK)
			}
			for _, v := range []int64{math.MinInt64, -c.end, -1, c.least - 1, c.end, c.end + 1, math.MaxInt64} {
				wantCheck(t, c.with(v, r), api.ErrNumber)
			}
		}
	}
	wantCheck(t, by(0, 0, value(3, 4, "k", "v")), api.OK)
}

func TestCheckSeqWithoutProducer(t *testing.T) {
	for _, seq := range []int64{math.MinInt64, -1, 1, 2, lastSeq, lastSeq + 1, math.MaxInt64} {
		wantCheck(t, by(0, seq, value(0, 0, "k", "v")), api.ErrNumber)
		wantCheck(t, by(0, seq, tomb(0, 0, "k")), api.ErrNumber)
	}
	for _, pid := range []int64{-1, 1 << 32} {
		wantCheck(t, by(pid, 0, value(0, 0, "k", "v")), api.ErrNumber)
	}
}

func TestCheckKey(t *testing.T) {
	for n, want := range map[int]api.Errno{0: api.ErrKey, 1: api.OK, 2: api.OK, 63: api.OK, 64: api.OK, 65: api.ErrKey, 66: api.ErrKey, 5000: api.ErrKey} {
		for _, c := range []string{"k", "\x00", "\xff"} {
			wantCheck(t, value(0, 0, strings.Repeat(c, n), "v"), want)
			wantCheck(t, tomb(0, 0, strings.Repeat(c, n)), want)
		}
	}
	for c := range 256 {
		wantCheck(t, value(0, 0, string([]byte{byte(c)}), ""), api.OK)
	}
	// Bytes are counted, not runes.
	wantCheck(t, value(0, 0, strings.Repeat("é", 32), ""), api.OK)
	wantCheck(t, value(0, 0, strings.Repeat("é", 33), ""), api.ErrKey)
}

func TestCheckValue(t *testing.T) {
	for n, want := range map[int]api.Errno{0: api.OK, 1: api.OK, 1023: api.OK, 1024: api.OK, 1025: api.ErrValue, 9999: api.ErrValue} {
		for _, c := range []string{"v", "\x00", "\xff"} {
			wantCheck(t, value(0, 0, "k", strings.Repeat(c, n)), want)
		}
	}
	for _, n := range []int{1, 2, 1024, 1025} {
		r := tomb(0, 0, "k")
		r.Value = strings.Repeat("v", n)
		wantCheck(t, r, api.ErrValue)
	}
}

// Each lot of faults is laid into one record; the first of them is told.
func TestCheckTellsTheFirst(t *testing.T) {
	faults := []struct {
		lay  func(r *api.Record)
		want api.Errno
	}{
		{func(r *api.Record) { r.Kind = 3 }, api.ErrKind},
		{func(r *api.Record) { r.Offset = -1 }, api.ErrNumber},
		{func(r *api.Record) { r.Time = lastTime + 1 }, api.ErrNumber},
		{func(r *api.Record) { r.Pid = -1 }, api.ErrNumber},
		{func(r *api.Record) { r.Seq = 5 }, api.ErrNumber},
		{func(r *api.Record) { r.Key = "" }, api.ErrKey},
		{func(r *api.Record) { r.Value = strings.Repeat("v", 1025) }, api.ErrValue},
	}
	for lot := range 1 << len(faults) {
		for _, r := range []api.Record{value(1, 2, "k", "v"), tomb(1, 2, "k")} {
			want := api.OK
			for i, fault := range faults {
				if lot>>i&1 == 0 {
					continue
				}
				if fault.lay(&r); want == api.OK {
					want = fault.want
				}
			}
			wantCheck(t, r, want)
		}
	}
}
