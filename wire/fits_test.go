package wire_test

import (
	"fmt"
	"math"
	"slices"
	"testing"

	"chronicle/api"
	"chronicle/probe"
	"chronicle/record"
	"chronicle/wire"
)

// 16.6
func TestFits(t *testing.T) {
	want(t, "nil", wire.Fits(nil), 0)
	want(t, "none", wire.Fits([]api.Record{}), 0)
	want(t, "one", wire.Fits([]api.Record{value(1, "k", "v")}), 1)
	want(t, "three of the greatest", wire.Fits([]api.Record{largest(1), largest(2), largest(3)}), 3)
	want(t, "four of the greatest", wire.Fits([]api.Record{largest(1), largest(2), largest(3), largest(4)}), 3)
	want(t, "the greatest has 1124 bytes", record.Size(largest(1)), 1124)
	for _, less := range []int{0, 1, 2, 100} {
		list := together(t, maxFrame-45-less)
		want(t, fmt.Sprint("bytes less ", less), wire.Fits(list), len(list))
	}
	for _, more := range []int{1, 2, 3} {
		list := together(t, maxFrame-45+more)
		want(t, fmt.Sprint("bytes more ", more), wire.Fits(list), len(list)-1)
		// The first that has no room ends it, though a later one would have some.
		want(t, "and a short one behind", wire.Fits(append(list, value(1, "k", ""))), len(list)-1)
	}
	full := together(t, maxFrame-45)
	want(t, "full, and one more", wire.Fits(append(full, tomb(0, "k"))), len(full))
}

func TestFitsOfRecordsThatMayNotBe(t *testing.T) {
	right := value(1, "k", "v")
	for _, wrong := range wrongRecords() {
		for at := range 5 {
			list := slices.Repeat([]api.Record{right}, 5)
			list[at] = wrong
			want(t, fmt.Sprintf("%s at %d", brief(wrong), at), wire.Fits(list), at)
		}
		want(t, "alone", wire.Fits([]api.Record{wrong}), 0)
		want(t, "behind the room's end", wire.Fits([]api.Record{largest(1), largest(2), largest(3), largest(4), wrong}), 3)
	}
}

// slowFits tries each number of records.
func slowFits(list []api.Record) int {
	var sizes []int
	for _, rec := range list {
		sizes = append(sizes, record.Size(rec))
	}
	for n := len(list); n > 0; n-- {
		bytes, right := 0, true
		for i, rec := range list[:n] {
			bytes += sizes[i]
			right = right && record.Check(rec) == api.OK
		}
		if right && bytes <= maxFrame-45 {
			return n
		}
	}
	return 0
}

// some is a list of records of all lengths, a wrong one now and then.
func some(seed uint64, most int) []api.Record {
	noise := probe.Noise(seed, 400)
	list := make([]api.Record, int(noise[0]>>20)%most)
	for i := range list {
		x := noise[i+1] >> 20
		list[i] = value(int64(x%(1<<40)), probe.Text(x, 1+int(x%64)), probe.Text(x, int(x/64)%(1+1024>>(x%9))))
		if x%5 == 0 {
			list[i] = tomb(int64(x%1000), "k")
		}
		if x%101 == 0 {
			list[i].Key = ""
		}
	}
	return list
}

func TestFitsOfAnyRecords(t *testing.T) {
	for seed := range uint64(300) {
		list := some(seed, 300)
		n := slowFits(list)
		want(t, fmt.Sprint("seed ", seed), wire.Fits(list), n)
		// What it allows has room, whatever else is told, as long as there are no names.
		for _, r := range []api.Response{{Op: 64}, {Id: lastId, Op: 15, Code: 11, Offset: math.MinInt64, Number: math.MinInt64, More: true}, {Id: lastId, Op: 64, Offset: math.MaxInt64, Number: math.MaxInt64}} {
			r.Records = list[:n]
			want(t, fmt.Sprint("room for seed ", seed), wire.CheckResponse(r), api.OK)
		}
	}
}

func TestWhatFitsHasRoom(t *testing.T) {
	r := api.Response{Id: lastId, Op: 64, Code: 11, Offset: math.MinInt64, Number: math.MinInt64, More: true}
	lists := [][]api.Record{nil, together(t, maxFrame-45), {largest(1), largest(2), largest(3)}, slices.Repeat([]api.Record{tomb(0, "k")}, 500)}
	for _, list := range lists {
		r.Records = list[:wire.Fits(list)]
		b, e := wire.EncodeResponse(r)
		want(t, "room", e, api.OK)
		if back, e := wire.DecodeResponse(b); !sameResponse(back, r) || e != api.OK {
			t.Errorf("%d records: %d", len(r.Records), e)
		}
	}
}
