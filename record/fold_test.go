package record_test

import (
	"math"
	"slices"
	"strings"
	"testing"

	"chronicle/api"
	"chronicle/probe"
	"chronicle/record"
)

// slowIsLast tells whether no later record of the list has the key of its i-th.
func slowIsLast(l []api.Record, i int) bool {
	for _, r := range l[i+1:] {
		if r.Key == l[i].Key {
			return false
		}
	}
	return true
}

func slowFold(l []api.Record) []api.Record {
	var live []api.Record
	for i, r := range l {
		if slowIsLast(l, i) && r.Kind == api.KValue {
			live = append(live, r)
		}
	}
	slices.SortFunc(live, func(a, b api.Record) int { return strings.Compare(a.Key, b.Key) })
	return live
}

func slowCompact(l []api.Record, now, horizon int64) ([]api.Record, int64) {
	var kept []api.Record
	mark := int64(0)
	for i, r := range l {
		switch {
		case !slowIsLast(l, i):
		case r.Kind == api.KValue, now-r.Time < min(horizon, 1<<40):
			kept = append(kept, r)
		case r.Offset >= mark:
			mark = r.Offset + 1
		}
	}
	return kept, mark
}

func wantFold(t *testing.T, name string, l []api.Record, want ...api.Record) {
	t.Helper()
	if got := record.Fold(l); !slices.Equal(got, want) {
		t.Errorf("%s: Fold = %v, want %v", name, got, want)
	}
}

func wantCompact(t *testing.T, name string, l []api.Record, now, horizon int64, want []api.Record, mark int64) {
	t.Helper()
	if got, m := record.Compact(l, now, horizon); !slices.Equal(got, want) || m != mark {
		t.Errorf("%s: Compact(%d, %d) = %v, %d, want %v, %d", name, now, horizon, got, m, want, mark)
	}
}

// logs is lists of records with a few keys, each of which stands in them several times.
func logs() [][]api.Record {
	var list [][]api.Record
	for seed := range uint64(60) {
		var l []api.Record
		for i, x := range probe.Noise(seed, int(seed)) {
			r := value(int64(i)*3, int64(x>>30%50), string([]byte{byte(x % 7 * 40)}), probe.Text(x, int(x>>8%9)))
			if x>>20%3 == 0 {
				r = tomb(r.Offset, r.Time, r.Key)
			}
			l = append(l, r)
		}
		list = append(list, l)
		backward := slices.Clone(l)
		slices.Reverse(backward) // offsets need not rise
		list = append(list, backward)
	}
	return list
}

// 4.6
func TestFold(t *testing.T) {
	a1, a2, b1, b2 := value(0, 5, "a", "1"), value(1, 4, "a", "2"), value(2, 3, "b", "1"), value(3, 2, "b", "2")
	gone := tomb(4, 1, "a")
	wantFold(t, "nil", nil)
	wantFold(t, "one", []api.Record{a1}, a1)
	wantFold(t, "a tombstone", []api.Record{gone})
	wantFold(t, "several times", []api.Record{a1, b1, a2, b2}, a2, b2)
	wantFold(t, "falling keys", []api.Record{b2, a1}, a1, b2)
	wantFold(t, "a tombstone last", []api.Record{a1, b1, a2, gone}, b1)
	wantFold(t, "a value last", []api.Record{gone, b1, a1}, a1, b1)
	wantFold(t, "the place in the list counts, not the offset", []api.Record{a2, a1}, a1)
	wantFold(t, "an empty value is one", []api.Record{value(0, 0, "k", "")}, value(0, 0, "k", ""))
}

func TestFoldOrdersByBytes(t *testing.T) {
	keys := []string{"\x00", "\x00\x00", "B", "a", "aa", "ab", "b", "\x7f", "\x80", "é", "日", "\xef\xbf\xbd", "\xff", "\xff\x00"}
	var rising, falling []api.Record
	for i, k := range keys {
		r := value(int64(i), 0, k, k)
		rising = append(rising, r)
		falling = slices.Insert(falling, 0, r)
	}
	wantFold(t, "rising", rising, rising...)
	wantFold(t, "falling", falling, rising...)
}

func TestFoldDoesNotAskCheck(t *testing.T) {
	odd := api.Record{Kind: api.KValue, Offset: -5, Time: -6, Pid: -7, Seq: -8, Key: "", Value: strings.Repeat("v", 2000)}
	long := value(1, 1, strings.Repeat("k", 100), "v")
	deleted := api.Record{Kind: api.KTombstone, Key: "d", Value: "v"}
	wantFold(t, "what Check refuses", []api.Record{long, odd}, odd, long)
	wantFold(t, "a tombstone with a value", []api.Record{value(0, 0, "d", "v"), deleted})
	for _, kind := range []int{-1, 0, 3, 257} {
		other := api.Record{Kind: kind, Key: "k", Value: "v"}
		wantFold(t, "another kind", []api.Record{other})
		wantFold(t, "another kind last", []api.Record{value(0, 0, "k", "v"), other})
		wantFold(t, "a value behind another kind", []api.Record{other, value(0, 0, "k", "v")}, value(0, 0, "k", "v"))
	}
}

func TestFoldOfLogs(t *testing.T) {
	for _, l := range logs() {
		wantFold(t, "a log", l, slowFold(l)...)
	}
}

// 4.7
func TestCompact(t *testing.T) {
	l := []api.Record{value(0, 0, "a", "1"), value(1, 0, "b", "2"), tomb(2, 10, "a"), value(3, 11, "c", "3")}
	young, old := []api.Record{l[1], l[2], l[3]}, []api.Record{l[1], l[3]}
	wantCompact(t, "the clock behind the tombstone's time", l, 0, 5, young, 0)
	wantCompact(t, "one below", l, 14, 5, young, 0)
	wantCompact(t, "at Time + horizon", l, 15, 5, old, 3)
	wantCompact(t, "one above", l, 16, 5, old, 3)
	wantCompact(t, "the last tick", l, math.MaxInt64, 5, old, 3)
	wantCompact(t, "no horizon, at its time", l, 10, 0, old, 3)
	wantCompact(t, "no horizon, one below", l, 9, 0, young, 0)
	wantCompact(t, "no records", nil, 9, 9, nil, 0)
	for _, now := range []int64{14, 15} {
		kept, _ := record.Compact(l, now, 5)
		wantFold(t, "what is kept", kept, l[1], l[3])
	}
}

func TestCompactOfOneKey(t *testing.T) {
	gone, v := tomb(4, 10, "a"), value(5, 0, "a", "v")
	wantCompact(t, "a value last", []api.Record{gone, v}, 99, 5, []api.Record{v}, 0)
	wantCompact(t, "an old tombstone last", []api.Record{v, gone}, 99, 5, nil, 5)
	wantCompact(t, "a young tombstone last", []api.Record{v, gone}, 14, 5, []api.Record{gone}, 0)
	// Only the last one's time counts.
	wantCompact(t, "an old one, then a young one", []api.Record{gone, tomb(6, 12, "a")}, 15, 5, []api.Record{tomb(6, 12, "a")}, 0)
	wantCompact(t, "a young one, then an old one", []api.Record{tomb(6, 12, "a"), gone}, 15, 5, nil, 5)
	wantCompact(t, "an old value", []api.Record{v}, math.MaxInt64, 0, []api.Record{v}, 0)
}

func TestCompactHorizons(t *testing.T) {
	const most = 1 << 40
	for _, time := range []int64{0, 10, lastTime} {
		gone := tomb(7, time, "k")
		for _, horizon := range []int64{most, most + 1, math.MaxInt64 - 10, math.MaxInt64} {
			wantCompact(t, "one below", []api.Record{gone}, time+most-1, horizon, []api.Record{gone}, 0)
			wantCompact(t, "at the greatest horizon", []api.Record{gone}, time+most, horizon, nil, 8)
		}
		wantCompact(t, "a horizon one below, one below", []api.Record{gone}, time+most-2, most-1, []api.Record{gone}, 0)
		wantCompact(t, "a horizon one below", []api.Record{gone}, time+most-1, most-1, nil, 8)
	}
}

func TestCompactMark(t *testing.T) {
	wantCompact(t, "the greatest first", []api.Record{tomb(9, 0, "a"), tomb(3, 0, "b"), tomb(5, 0, "c")}, 1, 0, nil, 10)
	wantCompact(t, "the greatest last", []api.Record{tomb(3, 0, "a"), tomb(9, 0, "b")}, 1, 0, nil, 10)
	wantCompact(t, "the offset 0", []api.Record{tomb(0, 0, "a")}, 1, 0, nil, 1)
	wantCompact(t, "the last offset", []api.Record{tomb(lastOffset, 0, "a")}, 1, 0, nil, lastOffset+1)
	wantCompact(t, "superseded ones do not count", []api.Record{tomb(9, 0, "a"), value(10, 0, "a", ""), tomb(4, 0, "b"), tomb(2, 0, "b")}, 1, 0, []api.Record{value(10, 0, "a", "")}, 3)
	wantCompact(t, "young ones do not count", []api.Record{tomb(9, 5, "a"), tomb(4, 0, "b")}, 5, 1, []api.Record{tomb(9, 5, "a")}, 5)
}

func TestCompactRefuses(t *testing.T) {
	l := []api.Record{value(0, 0, "a", "1"), tomb(1, 0, "b")}
	for _, below := range []int64{-1, -2, math.MinInt64} {
		wantCompact(t, "now below 0", l, below, 5, nil, 0)
		wantCompact(t, "horizon below 0", l, 5, below, nil, 0)
		wantCompact(t, "both below 0", l, below, below, nil, 0)
	}
	withValue := tomb(2, 0, "a")
	withValue.Value = "v"
	for _, wrong := range []api.Record{{}, value(-1, 0, "a", ""), value(0, 1<<50, "a", ""), by(0, 1, value(2, 0, "a", "")), value(2, 0, "", ""), withValue} {
		for at := range len(l) + 1 {
			wantCompact(t, "a record that may not be", slices.Insert(slices.Clone(l), at, wrong), 5, 5, nil, 0)
		}
	}
	// That it is superseded does not help it.
	wantCompact(t, "superseded", []api.Record{value(0, -1, "a", ""), value(1, 0, "a", "")}, 5, 5, nil, 0)
}

func TestCompactOfLogs(t *testing.T) {
	for _, l := range logs() {
		for _, now := range []int64{0, 10, 30, 49, 1000} {
			for _, horizon := range []int64{0, 1, 15, 1 << 40} {
				want, mark := slowCompact(l, now, horizon)
				wantCompact(t, "a log", l, now, horizon, want, mark)
				wantCompact(t, "what was kept", want, now, horizon, want, 0)
				wantFold(t, "what was kept", want, slowFold(l)...)
			}
		}
	}
}

// What is kept is kept still if records of other keys are added.
func TestCompactAmongOtherKeys(t *testing.T) {
	all := logs()
	for i, l := range all {
		var added []api.Record
		for k, r := range l {
			added = append(added, r)
			other := all[(i+7)%len(all)]
			if k < len(other) {
				o := other[k]
				o.Key += "other"
				added = append(added, o)
			}
		}
		kept, _ := record.Compact(l, 40, 10)
		got, _ := record.Compact(added, 40, 10)
		got = slices.DeleteFunc(got, func(r api.Record) bool { return strings.HasSuffix(r.Key, "other") })
		if !slices.Equal(got, kept) {
			t.Fatalf("log %d: %d kept, want %d", i, len(got), len(kept))
		}
	}
}
