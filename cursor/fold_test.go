package cursor_test

import (
	"testing"

	"chronicle/api"
	"chronicle/cursor"
	"chronicle/probe"
)

// said is a pair that no record says.
func said(key, value string) api.Pair {
	return api.Pair{Key: key, Value: value, Off: -7, Time: 1 << 60}
}

func full(key, value string, off, time int64) api.Pair {
	return api.Pair{Key: key, Value: value, Off: off, Time: time}
}

// 12.6
func TestFold(t *testing.T) {
	type start = []api.Pair
	type recs = []api.Record
	other := func(kind int, r api.Record) api.Record { r.Kind = kind; return r }
	a, b := at(5, put(3, "a", "1")), at(6, put(4, "b", "2"))
	for what, x := range map[string]struct {
		start start
		recs  recs
		right start
	}{
		"nothing":                       {},
		"empty lists":                   {start{}, recs{}, nil},
		"no records":                    {start{said("a", "x"), said("b", "")}, nil, start{said("a", "x"), said("b", "")}},
		"no start":                      {nil, recs{a, b}, start{pair(a), pair(b)}},
		"the examples' log":             {nil, four(), start{pair(four()[1]), pair(four()[3])}},
		"a key twice at the start":      {start{said("a", "x"), said("b", "y"), said("a", "z")}, nil, start{said("a", "z"), said("b", "y")}},
		"a start that does not rise":    {start{said("c", "1"), said("b", "2"), said("", "3"), said("a", "4")}, nil, start{said("", "3"), said("a", "4"), said("b", "2"), said("c", "1")}},
		"a start that is replaced":      {start{said("a", "x"), said("c", "y")}, recs{a, b}, start{pair(a), pair(b), said("c", "y")}},
		"a key twice, and replaced":     {start{said("a", "x"), said("a", "y")}, recs{a}, start{pair(a)}},
		"tombstones":                    {start{said("a", "x"), said("b", "y")}, recs{gone(9, "a")}, start{said("b", "y")}},
		"a key twice, and deleted":      {start{said("a", "x"), said("a", "y")}, recs{gone(9, "a")}, nil},
		"tombstones of no keys":         {start{said("b", "y")}, recs{gone(9, "a"), gone(10, ""), gone(11, "c")}, start{said("b", "y")}},
		"tombstones alone":              {nil, recs{gone(9, "a"), gone(9, "a")}, nil},
		"deleted, and put anew":         {start{said("a", "x")}, recs{gone(2, "a"), a}, start{pair(a)}},
		"put, and deleted":              {nil, recs{a, gone(9, "a"), b}, start{pair(b)}},
		"a tombstone with a value":      {start{said("a", "x")}, recs{other(api.KTombstone, a)}, nil},
		"other kinds are values":        {start{said("b", "x")}, recs{other(0, a), other(3, b)}, start{pair(a), pair(b)}},
		"a kind below 0":                {nil, recs{other(-2, a)}, start{pair(a)}},
		"the list's order, not offsets": {nil, recs{put(9, "a", "late"), a}, start{pair(a)}},
		"offsets and times of any kind": {nil, recs{at(-1, put(-5, "k", "v")), at(1<<62, put(1<<62, "l", "w"))}, start{full("k", "v", -5, -1), full("l", "w", 1<<62, 1<<62)}},
		"a key of no bytes":             {nil, recs{put(1, "", "v")}, start{full("", "v", 1, 0)}},
		"a value of no bytes":           {nil, recs{put(1, "k", "")}, start{full("k", "", 1, 0)}},
		"byte by byte":                  {start{said("\xff", "1"), said("é", "2"), said("b", "3"), said("ab", "4"), said("a\x00", "5"), said("a", "6"), said("B", "7")}, nil, start{said("B", "7"), said("a", "6"), said("a\x00", "5"), said("ab", "4"), said("b", "3"), said("é", "2"), said("\xff", "1")}},
	} {
		wantList(t, what, cursor.Fold(x.start, x.recs), x.right)
		wantList(t, what+": once more", cursor.Fold(cursor.Fold(x.start, x.recs), nil), x.right)
	}
}

// Texts above all bounds are texts.
func TestFoldOfLongTexts(t *testing.T) {
	key, value := probe.Text(1, 5000), probe.Text(2, 70000)
	r := put(0, key, value)
	wantList(t, "Fold", cursor.Fold(nil, []api.Record{r}), []api.Pair{pair(r)})
	wantList(t, "Fold", cursor.Fold([]api.Pair{pair(r)}, []api.Record{gone(1, key)}), nil)
}

// Against a slow fold, that looks for each pair's place; and cut in two anywhere.
func TestFoldAgainstASlowOne(t *testing.T) {
	for seed := range uint64(300) {
		var start []api.Pair
		var recs []api.Record
		for i, x := range probe.Noise(seed, int(seed%40)) {
			key := probe.Text(x>>8%9, int(x>>16%3))
			r := at(int64(x>>20%50), api.Record{Kind: int(x >> 30 % 4), Offset: int64(i), Key: key, Value: probe.Text(x, 3)})
			if x>>40%3 == 0 {
				start = append(start, pair(r))
			} else {
				recs = append(recs, r)
			}
		}
		right := slowFold(start, recs)
		wantList(t, "Fold", cursor.Fold(start, recs), right)
		for cut := range len(recs) + 1 {
			wantList(t, "in two", cursor.Fold(cursor.Fold(start, recs[:cut]), recs[cut:]), right)
		}
		if t.Failed() {
			t.Fatalf("seed %d", seed)
		}
	}
}

// slowFold keeps pairs in a list by rising keys.
func slowFold(start []api.Pair, recs []api.Record) []api.Pair {
	var list []api.Pair
	drop := func(key string) (place int) {
		for i, p := range list {
			if p.Key == key {
				list = append(list[:i:i], list[i+1:]...)
				return i
			}
			if p.Key > key {
				return i
			}
		}
		return len(list)
	}
	lay := func(p api.Pair) {
		i := drop(p.Key)
		list = append(list[:i:i], append([]api.Pair{p}, list[i:]...)...)
	}
	for _, p := range start {
		lay(p)
	}
	for _, r := range recs {
		if r.Kind == api.KTombstone {
			drop(r.Key)
		} else {
			lay(pair(r))
		}
	}
	return list
}
