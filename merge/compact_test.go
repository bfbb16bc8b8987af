package merge_test

import (
	"fmt"
	"math"
	"slices"
	"testing"

	"chronicle/api"
	"chronicle/merge"
	"chronicle/probe"
	"chronicle/record"
)

// wantCompact fails unless Compact answers so.
func wantCompact(t *testing.T, what string, sealed, later []api.Record, now, horizon int64, kept []api.Record, mark int64, errno api.Errno) {
	t.Helper()
	got, m, e := merge.Compact(sealed, later, now, horizon)
	if !slices.Equal(got, kept) || m != mark || e != errno {
		t.Errorf("%s: Compact at %d, horizon %d = %s, %d, %d, want %s, %d, %d", what, now, horizon, briefs(got), m, e, briefs(kept), mark, errno)
	}
}

// 11.1, 11.2
func TestCompactOfExamples(t *testing.T) {
	list := []api.Record{put(0, "a", "1"), put(1, "b", "1"), put(2, "a", "2")}
	wantCompact(t, "the first", list, []api.Record{gone(3, "b")}, 5, 10, list[2:], 0, api.OK)
	dead := []api.Record{gone(0, "a")}
	wantCompact(t, "young", dead, nil, 9, 10, dead, 0, api.OK)
	wantCompact(t, "old", dead, nil, 10, 10, nil, 1, api.OK)
	wantCompact(t, "superseded", []api.Record{put(0, "a", "1"), gone(1, "a")}, []api.Record{put(2, "a", "3")}, 99, 10, nil, 0, api.OK)
	wantCompact(t, "nothing", nil, nil, 0, 0, nil, 0, api.OK)
	wantCompact(t, "nothing sealed", nil, list, 99, 10, nil, 0, api.OK)
	wantCompact(t, "nothing later", list, []api.Record{}, 99, 10, list[1:], 0, api.OK)
}

func TestCompactOfOrders(t *testing.T) {
	for _, c := range []struct {
		sealed, later []int64
		right         bool
	}{
		{[]int64{0}, nil, true},
		{[]int64{lastOffset}, nil, true},
		{[]int64{0, 1, 7, lastOffset}, nil, true},
		{nil, []int64{0, lastOffset}, true},
		{[]int64{5}, []int64{6}, true},
		{[]int64{-1}, nil, false},
		{[]int64{math.MinInt64}, nil, false},
		{[]int64{lastOffset + 1}, nil, false},
		{[]int64{0, lastOffset + 1}, nil, false},
		{[]int64{math.MaxInt64}, nil, false},
		{nil, []int64{-1}, false},
		{nil, []int64{-1, 0}, false},
		{nil, []int64{lastOffset + 1}, false},
		{[]int64{0}, []int64{1, lastOffset + 1}, false},
		{[]int64{3, 3}, nil, false},
		{[]int64{3, 2}, nil, false},
		{[]int64{3, 4, 3}, nil, false},
		{[]int64{0, 0}, nil, false},
		{nil, []int64{3, 3}, false},
		{nil, []int64{3, 4, 1}, false},
		{[]int64{3}, []int64{3}, false},
		{[]int64{3, 9}, []int64{4}, false},
		{[]int64{3}, []int64{0}, false},
	} {
		var sealed, later []api.Record
		for i, off := range c.sealed {
			sealed = append(sealed, put(off, fmt.Sprint(i), ""))
		}
		for i, off := range c.later {
			later = append(later, put(off, fmt.Sprint("later", i), ""))
		}
		for _, now := range []int64{-1, 0, 5} {
			for _, horizon := range []int64{-1, 0, 5} {
				what := fmt.Sprint(c.sealed, c.later)
				switch {
				case !c.right:
					wantCompact(t, what, sealed, later, now, horizon, nil, 0, api.ErrOrder)
				case now < 0 || horizon < 0:
					wantCompact(t, what, sealed, later, now, horizon, nil, 0, api.ErrArg)
				default:
					wantCompact(t, what, sealed, later, now, horizon, sealed, 0, api.OK)
				}
			}
		}
	}
	wantCompact(t, "no records", nil, nil, -1, 0, nil, 0, api.ErrArg)
	wantCompact(t, "no records", nil, nil, 0, -1, nil, 0, api.ErrArg)
	wantCompact(t, "no records", nil, nil, math.MinInt64, math.MinInt64, nil, 0, api.ErrArg)
}

// A tombstone at the last moment that it is young, and at the first that it is old.
func TestCompactOfAges(t *testing.T) {
	for _, c := range []struct {
		time, horizon int64
		old           int64 // the first moment
	}{
		{0, 0, 0}, {0, 1, 1}, {7, 0, 7}, {7, 10, 17}, {0, 1 << 40, 1 << 40}, {0, 1<<40 + 1, 1 << 40}, {0, math.MaxInt64, 1 << 40},
		{5, math.MaxInt64, 5 + 1<<40}, {lastTime, 1 << 40, lastTime + 1<<40}, {5, 1<<40 - 1, 4 + 1<<40},
		{math.MaxInt64 - 3, 3, math.MaxInt64}, {-5, 9, 4}, {-1 << 40, 1 << 40, 0},
	} {
		list := []api.Record{at(c.time, gone(4, "a")), at(c.time, put(6, "b", "1"))}
		what := fmt.Sprintf("%+v", c)
		wantCompact(t, what, list, nil, c.old, c.horizon, list[1:], 5, api.OK)
		if c.old > 0 {
			wantCompact(t, what, list, nil, c.old-1, c.horizon, list, 0, api.OK)
		}
		wantCompact(t, what, list, nil, math.MaxInt64, c.horizon, list[1:], 5, api.OK)
	}
	// Times that no record has: nothing runs over.
	far := []api.Record{at(math.MaxInt64, gone(4, "a"))}
	wantCompact(t, "for ever young", far, nil, math.MaxInt64, 1, far, 0, api.OK)
	wantCompact(t, "for ever young", far, nil, math.MaxInt64, math.MaxInt64, far, 0, api.OK)
	wantCompact(t, "old at last", far, nil, math.MaxInt64, 0, nil, 5, api.OK)
	wantCompact(t, "always old", []api.Record{at(math.MinInt64, gone(4, "a"))}, nil, 0, math.MaxInt64, nil, 5, api.OK)
}

// What record.Check would say is not asked.
func TestCompactOfOddRecords(t *testing.T) {
	for _, kind := range []int{math.MinInt, -2, -1, 0, 1, 3, 4, 7, math.MaxInt} {
		r := api.Record{Kind: kind, Offset: 3, Time: -9, Pid: -1, Seq: 1, Value: "x"}
		wantCompact(t, fmt.Sprint("kind ", kind), []api.Record{r}, nil, 99, 1, []api.Record{r}, 0, api.OK)
	}
	dead := api.Record{Kind: 2, Offset: 3, Time: 98, Value: "x", Key: string(make([]byte, 99))}
	wantCompact(t, "a young one with a value", []api.Record{dead}, nil, 98, 1, []api.Record{dead}, 0, api.OK)
	wantCompact(t, "an old one with a value", []api.Record{dead}, nil, 99, 1, nil, 4, api.OK)
	empty := []api.Record{put(0, "", "1"), put(1, "", "2"), put(2, "\x00", "3")}
	wantCompact(t, "the key without bytes", empty, nil, 0, 0, empty[1:], 0, api.OK)
	wantCompact(t, "the key without bytes, later", empty[:1], empty[1:], 0, 0, nil, 0, api.OK)
}

// Marks of several tombstones: the greatest one counts, and of those that are old alone.
func TestMarks(t *testing.T) {
	list := []api.Record{at(5, gone(1, "a")), at(9, gone(3, "b")), at(2, gone(4, "c")), put(8, "d", ""), at(1, gone(9, "e"))}
	for _, c := range []struct {
		now  int64
		kept []int
		mark int64
	}{
		{0, []int{0, 1, 2, 3, 4}, 0},
		{11, []int{0, 1, 2, 3}, 10},
		{12, []int{0, 1, 3}, 10},
		{15, []int{1, 3}, 10},
		{19, []int{3}, 10},
	} {
		var kept []api.Record
		for _, i := range c.kept {
			kept = append(kept, list[i])
		}
		wantCompact(t, "marks", list, nil, c.now, 10, kept, c.mark, api.OK)
	}
	wantCompact(t, "the last one is superseded", list, []api.Record{put(10, "e", "")}, 19, 10, list[3:4], 5, api.OK)
	wantCompact(t, "that of later counts for nothing", list[:2], list[2:], 19, 10, nil, 4, api.OK)
	top := []api.Record{gone(lastOffset, "a")}
	wantCompact(t, "the greatest", top, nil, 99, 10, nil, 1<<40, api.OK)
}

// slowCompact asks of each record all that come behind it.
func slowCompact(sealed, later []api.Record, now, horizon int64) ([]api.Record, int64) {
	var kept []api.Record
	mark := int64(0)
	all := slices.Concat(sealed, later)
	for i, r := range sealed {
		superseded := slices.ContainsFunc(all[i+1:], func(o api.Record) bool { return o.Key == r.Key })
		switch {
		case superseded:
		case r.Kind != 2, now < r.Time+horizon:
			kept = append(kept, r)
		case r.Offset+1 > mark:
			mark = r.Offset + 1
		}
	}
	return kept, mark
}

func TestCompactAgainstTheSlowOne(t *testing.T) {
	marks, keeps := 0, 0
	for seed := range uint64(400) {
		var list []api.Record
		off := int64(-1)
		for _, x := range probe.Noise(seed+1, int(seed%40)) {
			off += 1 + int64(x>>8%3)
			r := at(int64(x>>16%30), put(off, string([]byte{byte('a' + x>>24%6)}), "v"))
			if x>>32%2 == 0 {
				r = at(r.Time, gone(r.Offset, r.Key))
			}
			list = append(list, r)
		}
		for cut := range len(list) + 1 {
			now, horizon := int64(seed%37), int64(cut%9)
			kept, mark := slowCompact(list[:cut], list[cut:], now, horizon)
			wantCompact(t, fmt.Sprint("seed ", seed), list[:cut], list[cut:], now, horizon, kept, mark, api.OK)
			if mark > 0 {
				marks++
			}
			keeps += len(kept)
		}
		// Of a whole log it is what chapter 4 tells.
		kept, mark := record.Compact(list, 20, 5)
		wantCompact(t, "a whole log", list, nil, 20, 5, kept, mark, api.OK)
	}
	if marks < 1000 || keeps < 5000 {
		t.Errorf("%d marks, %d kept", marks, keeps)
	}
}

// 11.3
func TestDue(t *testing.T) {
	const most, least = math.MaxInt, math.MinInt
	type stats []api.SegStat
	for _, c := range []struct {
		ss    stats
		share int
		due   bool
	}{
		{nil, 0, false},
		{nil, 1, false},
		{nil, 100, false},
		{stats{}, -1, false},
		{stats{{Bytes: 100, LiveBytes: 60}}, 40, true},
		{stats{{Bytes: 100, LiveBytes: 60}}, 41, false},
		{stats{{Bytes: 100, LiveBytes: 60}}, 39, true},
		{stats{{Bytes: 1000, LiveBytes: 601}}, 40, false},
		{stats{{Bytes: 1000, LiveBytes: 600}}, 40, true},
		{stats{{Bytes: 7, LiveBytes: 5}}, 28, true},  // 200 and 196
		{stats{{Bytes: 7, LiveBytes: 5}}, 29, false}, // 200 and 203
		{stats{{Bytes: 60, LiveBytes: 60}, {Bytes: 40}}, 40, true},
		{stats{{Bytes: 60, LiveBytes: 60}, {Bytes: 40}}, 41, false},
		{stats{{Bytes: 30, LiveBytes: 60}, {Bytes: 70}}, 40, true},
		// No bytes at all.
		{stats{{}}, 0, false},
		{stats{{}, {}}, 100, false},
		{stats{{Number: 5, Count: 5, Live: 0}}, 0, false},
		{stats{{LiveBytes: 5}}, 0, false},
		{stats{{LiveBytes: -5}}, 0, false},
		// Numbers below 0.
		{stats{{Bytes: -100}}, 0, false},
		{stats{{Bytes: -1}, {Bytes: 100, LiveBytes: 60}}, 40, true},
		{stats{{Bytes: -50}, {Bytes: 100, LiveBytes: 60}}, 41, false},
		{stats{{Bytes: 100, LiveBytes: 60}, {LiveBytes: -10}}, 41, false},
		{stats{{Bytes: 100, LiveBytes: 60}, {Bytes: least, LiveBytes: least}}, 40, true},
		// Shares at and beyond the ends.
		{stats{{Bytes: 100, LiveBytes: 100}}, 0, true},
		{stats{{Bytes: 100, LiveBytes: 100}}, -1, true},
		{stats{{Bytes: 100, LiveBytes: 100}}, least, true},
		{stats{{Bytes: 100, LiveBytes: 100}}, 1, false},
		{stats{{Bytes: 100, LiveBytes: 99}}, 1, true},
		{stats{{Bytes: 101, LiveBytes: 100}}, 1, false},
		{stats{{Bytes: 100}}, 100, true},
		{stats{{Bytes: 100}}, 101, true},
		{stats{{Bytes: 100}}, most, true},
		{stats{{Bytes: 100, LiveBytes: 1}}, 99, true},
		{stats{{Bytes: 100, LiveBytes: 1}}, 100, false},
		{stats{{Bytes: 100, LiveBytes: 1}}, 101, false},
		{stats{{Bytes: 100, LiveBytes: 1}}, most, false},
		// More that lives than there is.
		{stats{{Bytes: 100, LiveBytes: 101}}, 0, false},
		{stats{{Bytes: 100, LiveBytes: 101}}, -1, false},
		{stats{{Bytes: 1, LiveBytes: most}}, 0, false},
		{stats{{Bytes: 1, LiveBytes: most}, {LiveBytes: most}}, -1, false},
		// Sums that run over.
		{stats{{Bytes: most}, {Bytes: most}}, 100, true},
		{stats{{Bytes: most}, {Bytes: 1}}, 100, true},
		{stats{{Bytes: most, LiveBytes: most}, {Bytes: 1, LiveBytes: 1}}, 1, false},
		{stats{{Bytes: most, LiveBytes: most}, {Bytes: 1, LiveBytes: 1}}, 0, true},
		{stats{{Bytes: most, LiveBytes: most}, {Bytes: most, LiveBytes: most}}, 1, false},
		{stats{{Bytes: most - 1, LiveBytes: most - 1}, {Bytes: 1}}, 1, false},
		// Products that run over: both count as the greatest int then.
		{stats{{Bytes: most, LiveBytes: most/100*99 - 100}}, 1, true},
		{stats{{Bytes: most, LiveBytes: most / 2}}, 100, true},
		{stats{{Bytes: most, LiveBytes: most - most/100}}, 1, false},
		{stats{{Bytes: most, LiveBytes: most - most/100}}, 2, false},
		{stats{{Bytes: most, LiveBytes: most - most/100 - 1}}, 2, true},
		{stats{{Bytes: most / 100, LiveBytes: 1}}, 100, false},
		{stats{{Bytes: most/100 + 1, LiveBytes: 1}}, 100, false},
		{stats{{Bytes: most/100 + 2, LiveBytes: 1}}, 100, true},
	} {
		want(t, fmt.Sprintf("Due(%+v, %d)", c.ss, c.share), merge.Due(c.ss, c.share), c.due)
	}
}

// Against a sum of small numbers, each percent.
func TestDueOfEachShare(t *testing.T) {
	for _, b := range []int{1, 2, 3, 7, 99, 100, 101, 1000} {
		for l := range min(b, 130) + 2 {
			ss := []api.SegStat{{Bytes: b / 3, LiveBytes: l - l/2}, {Bytes: b - b/3, LiveBytes: l / 2}}
			for share := -1; share < 103; share++ {
				due := (b-l)*100 >= min(max(share, 0), 100)*b
				want(t, fmt.Sprintf("Due of %d, %d, %d", b, l, share), merge.Due(ss, share), due)
			}
		}
	}
}

// 11.8
func TestSteps(t *testing.T) {
	const most, least = math.MaxInt, math.MinInt
	for _, c := range []struct{ segs, recs, steps int }{
		{2, 3, 15},
		{0, 0, 4},
		{1, 0, 8},
		{0, 1, 5},
		{1, 1, 9},
		{63, 100000, 100256},
		{-1, 5, 0},
		{5, -1, 0},
		{-1, -1, 0},
		{least, 0, 0},
		{0, least, 0},
		{least, least, 0},
		{most, most, 0},
		{most, 0, 0},
		{0, most, 0},
		{0, most - 4, most},
		{0, most - 3, 0},
		{1, most - 8, most},
		{1, most - 7, 0},
		{most/4 - 1, 0, most - 3}, // most is 4 * (most / 4) + 3
		{most/4 - 1, 3, most},
		{most/4 - 1, 4, 0},
		{most / 4, 0, 0},
		{most/4 + 1, 0, 0},
		{most / 2, 0, 0}, // four times that is 4 below 0
		{most/2 + 1, 9, 0},
	} {
		want(t, fmt.Sprintf("Steps(%d, %d)", c.segs, c.recs), merge.Steps(c.segs, c.recs), c.steps)
	}
}
