package cursor_test

import (
	"fmt"
	"math"
	"testing"

	"chronicle/api"
	"chronicle/cursor"
	"chronicle/merge"
	"chronicle/simfs"
	"chronicle/topic"
)

// 12.4

// Example 3.
func TestSnapshot(t *testing.T) {
	_, p := holding(t, four()...)
	lay(t, p, fifth(), at(11, gone(5, "b"))) // are pending
	s, e := cursor.Snapshot(p)
	want(t, "Snapshot", e, api.OK)
	want(t, "its moment", s.Moment(), 4)
	wantPairs(t, "the first", s, 1, 1, api.CurOpen, pair(four()[1]))
	wantPairs(t, "the second", s, 1, 1, api.CurEnd, pair(four()[3]))
	wantPairs(t, "behind the last", s, 1, 1, api.CurEnd)
	want(t, "its moment then", s.Moment(), 4)
}

func TestSnapshotsOfNothing(t *testing.T) {
	_, p := made(t)
	wantPairs(t, "no records", taken(t, p, "", 0), 1, 1, api.CurEnd)
	add(t, p, put(0, "a", "1"), gone(1, "a"))
	s := taken(t, p, "", 2)
	for range 2 {
		wantPairs(t, "no live keys", s, 1, 1, api.CurEnd)
	}
}

// keyed is a log of keys that begin alike, of bytes that are no text too.
func keyed() []api.Record {
	var recs []api.Record
	for i, key := range []string{"ab", "\xff\xfe", "b", "a", "\xff", "abc", "\x00", "\xff\xfe\x00", "é", "\xc3", "A", "ac", "a\x00", "\xff\xff", "gone"} {
		recs = append(recs, at(int64(i), put(int64(i), key, fmt.Sprint("value ", i))))
	}
	return append(recs, at(20, gone(15, "gone")), at(21, put(16, "ab", "anew")))
}

// keysWith is the keys that live in that log and begin so, rising.
func keysWith(prefix string) []string {
	all := []string{"\x00", "A", "a", "a\x00", "ab", "abc", "ac", "b", "\xc3", "é", "\xff", "\xff\xfe", "\xff\xfe\x00", "\xff\xff"}
	var list []string
	for _, key := range all {
		if len(key) >= len(prefix) && key[:len(prefix)] == prefix {
			list = append(list, key)
		}
	}
	return list
}

func TestPrefix(t *testing.T) {
	_, p := holding(t, keyed()...)
	last := map[string]api.Record{}
	for _, r := range keyed() {
		last[r.Key] = r
	}
	count := map[string]int{}
	for _, prefix := range []string{"", "a", "ab", "abc", "abcd", "b", "\x00", "\xff", "\xff\xfe", "\xff\xfe\x00", "\xff\xff\xff", "\xc3", "é", "\xa9", "gone", "g", "z", "A", "\x00\x00", string(make([]byte, 9999))} {
		var right []api.Pair
		for _, key := range keysWith(prefix) {
			right = append(right, pair(last[key]))
		}
		count[prefix] = len(right)
		wantPairs(t, fmt.Sprintf("%.9q", prefix), taken(t, p, prefix, 17), 99, 9999, api.CurEnd, right...)
	}
	for prefix, n := range map[string]int{"": 14, "a": 5, "ab": 2, "abc": 1, "\xff": 4, "\xff\xfe": 2, "\xc3": 2, "z": 0, "gone": 0} {
		want(t, fmt.Sprintf("keys with %q", prefix), count[prefix], n)
	}
}

// wantUntaken fails unless no snapshot is taken, for this reason.
func wantUntaken(t *testing.T, what string, p *topic.Topic, errno api.Errno) {
	t.Helper()
	s, e := cursor.Snapshot(p)
	want(t, what+": Snapshot", fmt.Sprint(s == nil, e), fmt.Sprint(true, errno))
	for _, prefix := range []string{"", "a", "b", "none begins so"} {
		s, e := cursor.Prefix(p, prefix)
		want(t, what+": Prefix", fmt.Sprint(s == nil, e), fmt.Sprint(true, errno))
	}
}

func TestNoSnapshots(t *testing.T) {
	wantUntaken(t, "nil", nil, api.ErrNil)
	wantUntaken(t, "zero", &topic.Topic{}, api.ErrNil)
	d, p := holding(t, four()...)
	unpower(t, d)
	wantUntaken(t, "no power", p, api.ErrDead)
	p.Drop()
	wantUntaken(t, "dropped, without power", p, api.ErrGone)
	_, p = holding(t, four()...)
	p.Drop()
	wantUntaken(t, "dropped", p, api.ErrGone)
	d, p = made(t)
	unpower(t, d)
	wantPairs(t, "nothing has to be read", taken(t, p, "", 0), 1, 1, api.CurEnd)
}

// What becomes of the topic is not seen, whatever it is.
func TestSnapshotsStayAsTheyAre(t *testing.T) {
	for what, change := range map[string]func(*simfs.Disk, *topic.Topic){
		"nothing": func(*simfs.Disk, *topic.Topic) {},
		"written": func(d *simfs.Disk, p *topic.Topic) {
			add(t, p, fifth(), at(12, put(5, "b", "9")), at(12, gone(6, "c")))
		},
		"merged":    func(d *simfs.Disk, p *topic.Topic) { compact(t, p, 20, 3) },
		"dropped":   func(d *simfs.Disk, p *topic.Topic) { p.Drop() },
		"no power":  func(d *simfs.Disk, p *topic.Topic) { unpower(t, d) },
		"made anew": func(d *simfs.Disk, p *topic.Topic) { topic.Create(d, 3, 256, 5, 30) },
	} {
		for told := range 3 {
			d, p := holding(t, four()...)
			s := taken(t, p, "", 4)
			right := []api.Pair{pair(four()[1]), pair(four()[3])}
			for i, one := range right[:told] {
				wantPairs(t, what+": ahead", s, 1, 1, i, one)
			}
			change(d, p)
			want(t, what+": its moment", s.Moment(), 4)
			wantPairs(t, what, s, 9, 999, api.CurEnd, right[told:]...)
		}
	}
}

// A snapshot that is taken while a merge goes on is what it would be without.
func TestSnapshotsWhileMergesGoOn(t *testing.T) {
	_, p := holding(t, four()...)
	want(t, "Roll", p.Roll(), api.OK)
	m, e := merge.Start(p)
	want(t, "Start", e, api.OK)
	for !m.Over() {
		wantPairs(t, "amid a merge", taken(t, p, "", 4), 9, 99, api.CurEnd, pair(four()[1]), pair(four()[3]))
		m.Step(20)
	}
	wantPairs(t, "behind it", taken(t, p, "", 4), 9, 99, api.CurEnd, pair(four()[1]), pair(four()[3]))
}

// 12.5

// At most so many pairs, and so many bytes of keys and values, but one in any case.
func TestSizesOfSnapshots(t *testing.T) {
	recs := []api.Record{put(0, "a", ""), put(1, "bb", "1"), put(2, "c", "four"), put(3, "d", string(make([]byte, 300)))}
	sizes := []int{1, 3, 5, 301}
	_, p := holding(t, recs...)
	var all []api.Pair
	for _, r := range recs {
		all = append(all, pair(r))
	}
	// ahead is a snapshot of which the first so many have been told.
	ahead := func(n int) *cursor.Snap {
		s := taken(t, p, "", 4)
		for _, one := range all[:n] {
			wantPairs(t, "one in any case", s, math.MaxInt, 1, api.CurOpen, one)
		}
		return s
	}
	for from := range all {
		bytes := 0
		for n := 1; from+n <= 4; n++ {
			bytes += sizes[from+n-1]
			state, right := api.CurOpen, all[from:from+n]
			if from+n == 4 {
				state = api.CurEnd
			}
			for _, most := range []int{n, math.MaxInt} {
				wantPairs(t, "they just fit", ahead(from), most, bytes, state, right...)
			}
			wantPairs(t, "so many", ahead(from), n, math.MaxInt, state, right...)
			if n > 1 {
				wantPairs(t, "one byte more", ahead(from), 9, bytes-1, api.CurOpen, right[:n-1]...)
			} else if bytes > 1 {
				wantPairs(t, "one that is above", ahead(from), 9, bytes-1, state, right...)
			}
		}
	}
	s := ahead(3)
	wantPairs(t, "the last one", s, 1, 1, api.CurEnd, all[3])
	for range 2 {
		wantPairs(t, "behind the last", s, 1, 1, api.CurEnd)
		wantPairs(t, "behind the last", s, math.MaxInt, math.MaxInt, api.CurEnd)
	}
}

func TestWrongSizesOfSnapshots(t *testing.T) {
	_, p := holding(t, four()...)
	s := taken(t, p, "", 4)
	refused := func(what string) {
		for _, size := range wrongSizes() {
			wantNoPairs(t, what, s, size[0], size[1], api.ErrArg)
		}
	}
	refused("at its beginning")
	wantPairs(t, "nothing is lost", s, 1, 1, api.CurOpen, pair(four()[1]))
	refused("within")
	wantPairs(t, "nothing is lost", s, 1, 1, api.CurEnd, pair(four()[3]))
	refused("at its end")
	wantPairs(t, "behind the last", s, 1, 1, api.CurEnd)
}

func TestNilSnapshots(t *testing.T) {
	for what, s := range map[string]*cursor.Snap{"nil": nil, "zero": {}} {
		for range 2 {
			for _, size := range append(wrongSizes(), [2]int{1, 1}, [2]int{9, 9999}) {
				wantNoPairs(t, what, s, size[0], size[1], api.ErrNil)
			}
			want(t, what+": Moment", s.Moment(), 0)
			want(t, what+": Close", s.Close(), api.ErrNil)
		}
	}
}

func TestCloseOfSnapshots(t *testing.T) {
	_, p := holding(t, four()...)
	for told := range 4 {
		s, other := taken(t, p, "", 4), taken(t, p, "", 4)
		for range told {
			s.Next(1, 1)
		}
		want(t, "Close", s.Close(), api.OK)
		for range 2 {
			want(t, "Close once more", s.Close(), api.ErrClosed)
			want(t, "Moment", s.Moment(), 4)
			for _, size := range append(wrongSizes(), [2]int{1, 1}, [2]int{9, 9999}) {
				wantNoPairs(t, "closed", s, size[0], size[1], api.ErrClosed)
			}
		}
		wantPairs(t, "another one", other, 9, 99, api.CurEnd, pair(four()[1]), pair(four()[3]))
	}
}
