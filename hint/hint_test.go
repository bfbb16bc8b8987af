package hint_test

import (
	"fmt"
	"math"
	"slices"
	"strconv"
	"strings"
	"testing"

	"chronicle/api"
	"chronicle/hint"
	"chronicle/probe"
)

// 6.1
func TestOfTellsLastRecords(t *testing.T) {
	one := api.Placed{Rec: put(5, 300, "k", "v"), Pos: 21, Len: 16}
	dead := api.Placed{Rec: gone(6, 301, "k"), Pos: 37, Len: 15}
	other := api.Placed{Rec: put(9, 301, "j", "v"), Pos: 52, Len: 11}
	asOne := api.HintEntry{Key: "k", Off: 5, Time: 300, Pos: 21, Len: 16}
	asDead := api.HintEntry{Key: "k", Off: 6, Time: 301, Dead: true, Pos: 37, Len: 15}
	asOther := api.HintEntry{Key: "j", Off: 9, Time: 301, Pos: 52, Len: 11}
	for _, c := range []struct {
		recs []api.Placed
		want []api.HintEntry
	}{
		{nil, nil},
		{[]api.Placed{}, nil},
		{[]api.Placed{one}, []api.HintEntry{asOne}},
		{[]api.Placed{dead}, []api.HintEntry{asDead}},
		{[]api.Placed{one, dead, other}, []api.HintEntry{asDead, asOther}},
		{[]api.Placed{one, other, dead}, []api.HintEntry{asOther, asDead}},
		{[]api.Placed{other, one, dead}, []api.HintEntry{asOther, asDead}},
		{[]api.Placed{dead, other, one}, []api.HintEntry{asOther, asOne}},
		{[]api.Placed{one, one, one}, []api.HintEntry{asOne}},
		{[]api.Placed{other, dead, other, dead, other}, []api.HintEntry{asDead, asOther}},
	} {
		wantHint(t, fmt.Sprint("Of ", c.recs), hint.Of(7, 80, c.recs), api.Hint{Seg: 7, Size: 80, Entries: c.want})
	}
}

// Which record is the last one is told by the list alone, and the entries' order by theirs: neither by offsets nor by keys.
func TestOfGoesByTheList(t *testing.T) {
	for seed := range uint64(300) {
		var recs []api.Placed
		for _, x := range probe.Noise(seed, int(seed%40)) {
			r := api.Record{Kind: int(x >> 8 % 4), Offset: int64(x>>16%9) - 1, Time: int64(x >> 24 % 5), Key: strings.Repeat("k", int(x>>32%3)) + strconv.Itoa(int(x>>40%12)), Value: "v"}
			recs = append(recs, api.Placed{Rec: r, Pos: int(x>>48%100) - 5, Len: int(x>>50%20) - 5})
		}
		wantHint(t, fmt.Sprint("seed ", seed), hint.Of(int(seed), 99, recs), slowOf(int(seed), 99, recs))
	}
}

func TestOfChecksNothing(t *testing.T) {
	odd := api.Placed{Rec: api.Record{Kind: 77, Offset: math.MinInt64, Time: math.MaxInt64, Pid: -1, Seq: -1, Value: strings.Repeat("v", 2000)}, Pos: math.MinInt, Len: math.MaxInt}
	long := api.Placed{Rec: gone(math.MaxInt64, math.MinInt64, strings.Repeat("k", 1000)), Pos: math.MaxInt, Len: math.MinInt}
	wanted := []api.HintEntry{
		{Off: math.MinInt64, Time: math.MaxInt64, Pos: math.MinInt, Len: math.MaxInt},
		{Key: strings.Repeat("k", 1000), Off: math.MaxInt64, Time: math.MinInt64, Dead: true, Pos: math.MaxInt, Len: math.MinInt},
	}
	for _, n := range []int{math.MinInt, -1, 0, 1 << 30, math.MaxInt} {
		wantHint(t, "odd records", hint.Of(n, -n, []api.Placed{odd, long}), api.Hint{Seg: n, Size: -n, Entries: wanted})
	}
	wantHint(t, "empty records", hint.Of(0, 0, make([]api.Placed, 3)), api.Hint{Entries: make([]api.HintEntry, 1)})
}

// Only a tombstone is dead, whatever other kinds there may be.
func TestOfTellsTombstones(t *testing.T) {
	for _, kind := range []int{math.MinInt, -2, -1, 0, 1, 2, 3, 4, math.MaxInt} {
		h := hint.Of(0, 0, []api.Placed{{Rec: api.Record{Kind: kind, Key: "k"}}})
		want(t, fmt.Sprint("Dead of the kind ", kind), h.Entries[0].Dead, kind == api.KTombstone)
	}
}

// Keys are texts of any bytes; those that look alike are not the same.
func TestOfKeysOfAnyBytes(t *testing.T) {
	var recs []api.Placed
	for i, key := range []string{"a", "A", "a\x00", "\x00a", "\xff", "\xfe", "\u00e9", "e\u0301", "\xef\xbf\xbd", ""} {
		recs = append(recs, api.Placed{Rec: put(int64(i), 0, key, "")})
	}
	want(t, "entries", len(hint.Of(0, 0, recs).Entries), len(recs))
	recs = append(recs, recs...)
	wantHint(t, "all of them twice", hint.Of(0, 0, recs), slowOf(0, 0, recs))
}

// edge is a hint and whether it is right.
type edge struct {
	what  string
	h     api.Hint
	right bool
}

// only is a hint of one entry, in the greatest segment.
func only(e api.HintEntry) api.Hint {
	return api.Hint{Seg: 7, Size: 65536, Entries: []api.HintEntry{e}}
}

// plain is an entry that may be the first of a hint.
func plain() api.HintEntry { return api.HintEntry{Key: "k", Off: 6, Time: 301, Pos: 37, Len: 15} }

// changed is a plain entry with one thing changed.
func changed(change func(e *api.HintEntry)) api.HintEntry {
	e := plain()
	change(&e)
	return e
}

func numberEdges() []edge {
	var list []edge
	for _, c := range []struct {
		n     int
		right bool
	}{{math.MinInt, false}, {-1 << 30, false}, {-1, false}, {0, true}, {1, true}, {lastId, true}, {1 << 30, false}, {1<<32 + 7, false}, {math.MaxInt, false}} {
		list = append(list, edge{fmt.Sprint("Seg ", c.n), api.Hint{Seg: c.n, Size: 38}, c.right})
	}
	for _, c := range []struct {
		n     int
		right bool
	}{{math.MinInt, false}, {-38, false}, {0, false}, {37, false}, {38, true}, {39, true}, {65535, true}, {65536, true}, {65537, false}, {1<<32 + 38, false}, {math.MaxInt, false}} {
		list = append(list, edge{fmt.Sprint("Size ", c.n), api.Hint{Seg: 7, Size: c.n}, c.right})
	}
	for _, c := range []struct {
		n     int64
		right bool
	}{{math.MinInt64, false}, {-2, false}, {-1, false}, {0, true}, {lastOffset, true}, {1 << 40, false}, {math.MaxInt64, false}} {
		list = append(list, edge{fmt.Sprint("Off ", c.n), only(changed(func(e *api.HintEntry) { e.Off = c.n })), c.right})
	}
	for _, c := range []struct {
		n     int64
		right bool
	}{{math.MinInt64, false}, {-1, false}, {0, true}, {lastTime, true}, {1 << 50, false}, {math.MaxInt64, false}} {
		list = append(list, edge{fmt.Sprint("Time ", c.n), only(changed(func(e *api.HintEntry) { e.Time = c.n })), c.right})
	}
	for _, c := range []struct {
		n     int
		right bool
	}{{math.MinInt, false}, {-14, false}, {0, false}, {13, false}, {14, true}, {15, true}, {1123, true}, {1124, true}, {1125, false}, {math.MaxInt, false}} {
		list = append(list, edge{fmt.Sprint("Len ", c.n), only(changed(func(e *api.HintEntry) { e.Len = c.n })), c.right})
	}
	for _, c := range []struct {
		n     int
		right bool
	}{{0, false}, {1, true}, {2, true}, {63, true}, {64, true}, {65, false}, {1000, false}} {
		list = append(list, edge{fmt.Sprint("a key of ", c.n), only(changed(func(e *api.HintEntry) { e.Key = strings.Repeat("k", c.n) })), c.right})
	}
	return list
}

func placeEdges() []edge {
	var list []edge
	for _, c := range []struct {
		n     int
		right bool
	}{{math.MinInt, false}, {-1, false}, {0, false}, {20, false}, {21, true}, {22, true}, {65536 - 17 - 15, true}, {65536 - 17 - 14, false}, {65536, false}, {math.MaxInt - 15, false}, {math.MaxInt - 14, false}, {math.MaxInt, false}} {
		list = append(list, edge{fmt.Sprint("Pos ", c.n), only(changed(func(e *api.HintEntry) { e.Pos = c.n })), c.right})
	}
	for _, c := range []struct {
		size, pos, long int
		right           bool
	}{
		{69, 37, 15, true}, {68, 37, 15, false}, {69, 38, 15, false}, {69, 37, 16, false}, {69, 36, 16, true},
		{38, 21, 14, false}, {51, 21, 14, false}, {52, 21, 14, true}, {52, 22, 14, false}, {1162, 21, 1124, true}, {1161, 21, 1124, false},
		{37, 21, 14, false}, {65537, 21, 14, false},
	} {
		e := changed(func(e *api.HintEntry) { e.Pos, e.Len = c.pos, c.long })
		list = append(list, edge{fmt.Sprint("in ", c.size, " bytes ", c.long, " at ", c.pos), api.Hint{Seg: 7, Size: c.size, Entries: []api.HintEntry{e}}, c.right})
	}
	return list
}

// pairEdges is hints of which one entry stands behind others.
func pairEdges() []edge {
	var list []edge
	first := api.HintEntry{Key: "a", Off: 6, Time: 301, Pos: 37, Len: 15}
	second := api.HintEntry{Key: "b", Off: 8, Time: 300, Dead: true, Pos: 60, Len: 20}
	add := func(what string, right bool, last api.HintEntry) {
		list = append(list, edge{what, api.Hint{Seg: 7, Size: 999, Entries: []api.HintEntry{first, last}}, right})
		list = append(list, edge{what + ", as the third", api.Hint{Seg: 7, Size: 999, Entries: []api.HintEntry{{Key: "z", Pos: 21, Len: 14}, first, last}}, right})
	}
	for off, right := range map[int64]bool{math.MinInt64: false, -1: false, 0: false, 5: false, 6: false, 7: true, 8: true, lastOffset: true, 1 << 40: false, math.MaxInt64: false} {
		last := second
		last.Off = off
		add(fmt.Sprint("Off ", off, " behind 6"), right, last)
	}
	for pos, right := range map[int]bool{math.MinInt: false, 0: false, 21: false, 37: false, 51: false, 52: true, 53: true, 999 - 17 - 20: true, 999 - 17 - 19: false, math.MaxInt: false} {
		last := second
		last.Pos = pos
		add(fmt.Sprint("Pos ", pos, " behind 52"), right, last)
	}
	for time, right := range map[int64]bool{0: true, 301: true, lastTime: true, -1: false, 1 << 50: false} {
		last := second
		last.Time = time
		add(fmt.Sprint("Time ", time, " behind 301"), right, last)
	}
	for key, right := range map[string]bool{"": false, "a": false, "A": true, "aa": true, "\x00": true, strings.Repeat("a", 64): true, strings.Repeat("a", 65): false} {
		last := second
		last.Key = key
		add(fmt.Sprintf("the key %.5q behind a", key), right, last)
	}
	apart := []api.HintEntry{first, second, {Key: "c", Off: 9, Pos: 80, Len: 14}, {Key: "a", Off: 10, Dead: true, Pos: 94, Len: 14}}
	list = append(list, edge{"a key twice, apart", api.Hint{Size: 999, Entries: apart}, false})
	list = append(list, edge{"the same without the second", api.Hint{Size: 999, Entries: apart[:3]}, true})
	list = append(list, edge{"the same without the first", api.Hint{Size: 999, Entries: apart[1:]}, true})
	return list
}

func edges() []edge { return slices.Concat(numberEdges(), placeEdges(), pairEdges()) }

// 6.2: which hints are right, at each edge.
func TestWhichHintsAreRight(t *testing.T) {
	for _, c := range edges() {
		if slowRight(c.h) != c.right {
			t.Fatalf("%s: the slow version is wrong", c.what)
		}
		if c.right {
			wantBytes(t, c.what, c.h, slowEncode(c.h))
		} else {
			wantWrong(t, c.what, c.h)
		}
	}
}

// A hint that is wrong at its end alone is wrong as well.
func TestEveryEntryIsLookedAt(t *testing.T) {
	h := fewHint()
	for i := range h.Entries {
		for _, spoil := range []func(e *api.HintEntry){
			func(e *api.HintEntry) { e.Key = "" },
			func(e *api.HintEntry) { e.Key = h.Entries[(i+1)%len(h.Entries)].Key },
			func(e *api.HintEntry) { e.Off += 1 << 40 },
			func(e *api.HintEntry) { e.Off -= 2000 },
			func(e *api.HintEntry) { e.Time = -1 },
			func(e *api.HintEntry) { e.Len = 13 },
			func(e *api.HintEntry) { e.Pos = 20 },
			func(e *api.HintEntry) { e.Pos += 1 << 16 },
		} {
			spoiled := h
			spoiled.Entries = slices.Clone(h.Entries)
			spoil(&spoiled.Entries[i])
			wantWrong(t, fmt.Sprint("the entry ", i), spoiled)
		}
	}
}

// full is a hint of so many entries of 14 bytes, one behind the other.
func full(n int) api.Hint {
	h := api.Hint{Seg: lastId, Size: 65536}
	for i := range n {
		h.Entries = append(h.Entries, api.HintEntry{Key: "k" + strconv.Itoa(i), Off: int64(i), Time: int64(i % 7), Dead: i%3 == 0, Pos: 21 + 14*i, Len: 14})
	}
	return h
}

// As many entries as there is room for, and one more.
func TestAsManyEntriesAsMayBe(t *testing.T) {
	h := full(4678)
	wantBytes(t, "4678 entries", h, slowEncode(h))
	h.Size = 38 + 4678*14
	wantBytes(t, "just as much room", h, slowEncode(h))
	h.Size--
	wantWrong(t, "one byte less", h)
	wantNone(t, "bytes of one byte less", slowEncode(h))
	wantWrong(t, "4679 entries", full(4679))
	wantNone(t, "bytes of 4679 entries", slowEncode(full(4679)))
	wantWrong(t, "100000 entries", full(100000))
	wantNone(t, "bytes of 100000 entries", slowEncode(full(100000)))
	wantWrong(t, "many empty entries", api.Hint{Size: 65536, Entries: make([]api.HintEntry, 1<<20)})
}

// The longest bytes: each number and each key as long as can be.
func TestTheLongestEntries(t *testing.T) {
	h := api.Hint{Seg: lastId, Size: 65536}
	for i := range 58 {
		h.Entries = append(h.Entries, api.HintEntry{Key: string([]byte{byte(i)}) + strings.Repeat("\xff", 63), Off: lastOffset - 57 + int64(i), Time: lastTime, Dead: true, Pos: 21 + 1124*i, Len: 1124})
	}
	wantBytes(t, "long entries", h, slowEncode(h))
	h.Entries[57].Len++
	wantWrong(t, "one byte more", h)
}

// noisy is a hint that is often right.
func noisy(seed uint64) api.Hint {
	h := api.Hint{Seg: int(seed % 9), Size: 38 + int(seed*37%700)}
	ahead := api.HintEntry{Off: -1, Pos: 21}
	for _, x := range probe.Noise(seed, int(seed%8)) {
		e := api.HintEntry{
			Key:  string([]byte{byte('a' + x>>8%24)}),
			Off:  ahead.Off + 1 + int64(x>>12%40),
			Time: int64(x >> 18 % 300),
			Dead: x>>28%2 == 0,
			Pos:  ahead.Pos + ahead.Len + int(x>>29%9),
			Len:  14 + int(x>>33%30),
		}
		switch x >> 38 % 40 {
		case 0:
			e.Off -= 1 + int64(x>>44%8)
		case 1:
			e.Pos -= int(x >> 44 % 10)
		case 2:
			e.Len -= int(x >> 44 % 16)
		case 3:
			e.Time -= int64(x >> 44 % 400)
		case 4:
			e.Key = strings.Repeat(e.Key, int(x>>44%80))
		}
		h.Entries = append(h.Entries, e)
		ahead = e
	}
	return h
}

func TestAgainstTheSlowVersion(t *testing.T) {
	right, wrong := 0, 0
	for seed := range uint64(6000) {
		h := noisy(seed)
		if slowRight(h) {
			wantBytes(t, fmt.Sprint("seed ", seed), h, slowEncode(h))
			right++
		} else {
			wantWrong(t, fmt.Sprint("seed ", seed), h)
			wrong++
		}
	}
	if right < 1500 || wrong < 1500 {
		t.Errorf("%d right, %d wrong", right, wrong)
	}
}
