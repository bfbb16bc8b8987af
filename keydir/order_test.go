package keydir_test

import (
	"fmt"
	"iter"
	"math"
	"slices"
	"testing"

	"chronicle/api"
	"chronicle/keydir"
)

// 8.6

func TestLen(t *testing.T) {
	d := keydir.New()
	for i, k := range strange() {
		want(t, "Len", d.Len(), i)
		d.Put(k, full(i))
		d.Put(k, full(i+1))
		d.Note(k, full(i+2))
		d.Note(k, full(i))
		d.Point(k, int64(i+2), 1, 2)
		d.Put(long(65), full(i))
	}
	for i, k := range mixed(1, strange()) {
		want(t, "Len", d.Len(), len(strange())-i)
		d.Remove(k)
		d.Remove(k)
	}
	want(t, "Len at the end", d.Len(), 0)
}

func TestRank(t *testing.T) {
	d, s := filled(mixed(2, strange()))
	for _, k := range texts(strange()) {
		want(t, fmt.Sprintf("Rank(%q)", k), d.Rank(k), s.rank(k))
	}
	d, _ = filled([]string{"c", "b", "a", "b\x00", "ab"})
	for _, c := range []struct {
		text string
		rank int
	}{{"", 0}, {"a", 0}, {"A", 0}, {"\x00", 0}, {"a\x00", 1}, {"aa", 1}, {"ab", 1}, {"ab\x00", 2}, {"b", 2}, {"b\x00", 3}, {"b\x00\x00", 4}, {"bz", 4}, {"c", 4}, {"c\x00", 5}, {"d", 5}, {"\xff", 5}, {long(65), 5}} {
		want(t, fmt.Sprintf("Rank(%q)", c.text), d.Rank(c.text), c.rank)
	}
}

func TestNth(t *testing.T) {
	for n := range len(strange()) + 1 {
		d, s := filled(mixed(3, strange()[:n]))
		for i, x := range s.all("", "") {
			got, ok := d.Nth(i)
			if !ok || got != x {
				t.Errorf("Nth(%d) of %d = %v, %v, want %v", i, n, got, ok, x)
			}
		}
		for _, i := range []int{-1, -2, -n, -n - 1, n, n + 1, 2*n + 2, math.MinInt, math.MinInt + n, math.MaxInt, math.MaxInt - n} {
			if i == 0 && n > 0 {
				continue
			}
			got, ok := d.Nth(i)
			if ok || got != (api.KeyEntry{}) {
				t.Errorf("Nth(%d) of %d = %v, %v", i, n, got, ok)
			}
		}
	}
}

// 8.7

func TestRanges(t *testing.T) {
	keys := []string{"\x00", "a", "a\x00", "ab", "b", "b\x00", "c", "\xff", "\xff\xff", long(64)}
	d, s := filled(mixed(4, keys))
	for _, lo := range texts(keys) {
		for _, hi := range texts(keys) {
			what := fmt.Sprintf("from %.20q on and below %.20q", lo, hi)
			list := s.all(lo, hi)
			wantList(t, "All "+what, given(d.All(lo, hi)), list)
			for _, limit := range []int{math.MinInt, -1, 0, 1, 2, len(list) - 1, len(list), len(list) + 1, math.MaxInt} {
				wantList(t, fmt.Sprintf("Range %s, %d of them", what, limit), d.Range(lo, hi, limit), list[:max(0, min(limit, len(list)))])
			}
		}
	}
	wantKeys(t, "behind all ranges", d, s)
}

func TestRangeOfTheExamples(t *testing.T) {
	d, _ := filled([]string{"c", "b", "a", "b\x00", "ab"})
	for _, c := range []struct {
		lo, hi string
		limit  int
		want   []string
	}{
		{"ab", "c", 9, []string{"ab", "b", "b\x00"}},
		{"", "", 2, []string{"a", "ab"}},
		{"", "", 5, five()},
		{"", "", 6, five()},
		{"b", "a", 9, nil},
		{"b", "b", 9, nil},
		{"b", "b\x00", 9, []string{"b"}},
		{"", "a", 9, nil},
		{"c", "", 9, []string{"c"}},
		{"c\x00", "", 9, nil},
		{"", long(65), 9, five()},
		{long(65), "", 9, nil},
		{"a" + long(65), "b" + long(65), 9, []string{"b", "b\x00"}},
	} {
		wantList(t, fmt.Sprintf("Range(%q, %q, %d)", c.lo, c.hi, c.limit), names(d.Range(c.lo, c.hi, c.limit)), c.want)
	}
}

func TestPrefix(t *testing.T) {
	d, s := filled(mixed(5, strange()))
	for _, p := range texts(strange()) {
		wantList(t, fmt.Sprintf("Prefix(%.20q)", p), given(d.Prefix(p)), s.prefix(p))
	}
	for _, k := range strange() {
		for n := range len(k) {
			wantList(t, fmt.Sprintf("Prefix(%.20q)", k[:n]), given(d.Prefix(k[:n])), s.prefix(k[:n]))
		}
	}
	for p, wanted := range map[string][]string{
		"":             strange(),
		"\xff\xff":     {"\xff\xff", "\xff\xff\xff", string(slices.Repeat([]byte{255}, 63)), string(slices.Repeat([]byte{255}, 64))},
		"\xff\xfe":     {"\xff\xfe"},
		"\xff\xff\xfe": nil,
		"a\xff":        {"a\xff", "a\xff\xff"},
		"\x00\x00":     {"\x00\x00", string(slices.Repeat([]byte{0}, 64))},
		long(64):       {long(64)},
		long(65):       nil,
	} {
		wantList(t, fmt.Sprintf("Prefix(%.20q)", p), names(given(d.Prefix(p))), wanted)
	}
	lower, _ := filled(five())
	wantList(t, "Prefix above all keys", given(lower.Prefix("d")), nil)
	wantList(t, "Prefix of a byte 255 above all keys", given(lower.Prefix("\xff")), nil)
}

// walks is each way of going through a dir, and what it gives of a slow one.
func walks(d *keydir.Dir, s *slow) map[string]struct {
	seq  iter.Seq2[string, api.Entry]
	list func() []api.KeyEntry
} {
	return map[string]struct {
		seq  iter.Seq2[string, api.Entry]
		list func() []api.KeyEntry
	}{
		"All of it":         {d.All("", ""), func() []api.KeyEntry { return s.all("", "") }},
		"All of a part":     {d.All("ab", "c"), func() []api.KeyEntry { return s.all("ab", "c") }},
		"Prefix of all":     {d.Prefix(""), func() []api.KeyEntry { return s.prefix("") }},
		"Prefix of a part":  {d.Prefix("b"), func() []api.KeyEntry { return s.prefix("b") }},
		"All of nothing":    {d.All("b", "a"), func() []api.KeyEntry { return s.all("b", "a") }},
		"Prefix of nothing": {d.Prefix("bb"), func() []api.KeyEntry { return s.prefix("bb") }},
	}
}

// 8.8

// What a going through gives is what the dir holds when it begins, not when All or Prefix was called.
func TestGoingThroughBeginsAnew(t *testing.T) {
	d, s := new(keydir.Dir), &slow{}
	for what, w := range walks(d, s) {
		for i, k := range []string{"b", "b\x01", "a", "c", "ab", "b"} {
			wantList(t, what, given(w.seq), w.list())
			wantList(t, what+" again", given(w.seq), w.list())
			if _, there := s.get(k); there {
				d.Remove(k)
				s.remove(k)
			} else {
				d.Put(k, full(i))
				s.put(k, full(i))
			}
		}
		wantList(t, what, given(w.seq), w.list())
	}
}

// stopped goes through till it has been given n keys, and fails if it is given more then.
func stopped(t *testing.T, what string, seq iter.Seq2[string, api.Entry], n int) []api.KeyEntry {
	var list []api.KeyEntry
	over := false
	seq(func(k string, e api.Entry) bool {
		if over {
			t.Errorf("%s: %q is given to one who has stopped", what, k)
		}
		list = append(list, api.KeyEntry{Key: k, E: e})
		over = len(list) == n
		return !over
	})
	return list
}

func TestWhoStopsIsGivenNoMore(t *testing.T) {
	for _, keys := range [][]string{five(), append(five(), "b\x01", "b\x02", "ba", "bb", "bc", "bcd")} {
		for seed := range uint64(8) {
			d, s := filled(mixed(seed, keys))
			for what, w := range walks(d, s) {
				list := w.list()
				for n := range list {
					wantList(t, fmt.Sprintf("%s, stopped at %d", what, n+1), stopped(t, what, w.seq, n+1), list[:n+1])
				}
				wantList(t, what+", begun anew", given(w.seq), list)
			}
			wantKeys(t, "behind all of it", d, s)
		}
	}
}

func TestBreakStops(t *testing.T) {
	d, _ := filled(five())
	for _, seq := range []iter.Seq2[string, api.Entry]{d.All("", ""), d.Prefix("")} {
		count := 0
		for range seq {
			count++
			if count == 3 {
				break
			}
		}
		want(t, "keys till a break", count, 3)
	}
}

// The body of a going through changes the dir, in each way; the going through does not show it, the next one does.
func TestGoingThroughWhileItChanges(t *testing.T) {
	bodies := map[string]func(d *keydir.Dir, s *slow, key string, i int){
		"removes the key": func(d *keydir.Dir, s *slow, key string, i int) { d.Remove(key); s.remove(key) },
		"removes all keys": func(d *keydir.Dir, s *slow, key string, i int) {
			for _, k := range append(five(), "bb") {
				d.Remove(k)
				s.remove(k)
			}
		},
		"removes the next ones": func(d *keydir.Dir, s *slow, key string, i int) {
			for _, x := range d.Range(key+"\x00", "", 3) {
				d.Remove(x.Key)
				s.remove(x.Key)
			}
		},
		"puts behind": func(d *keydir.Dir, s *slow, key string, i int) {
			d.Put(key+"\x00z", full(i))
			s.put(key+"\x00z", full(i))
		},
		"puts ahead": func(d *keydir.Dir, s *slow, key string, i int) {
			d.Put("\x00"+key, full(i))
			s.put("\x00"+key, full(i))
		},
		"puts new entries": func(d *keydir.Dir, s *slow, key string, i int) {
			for _, k := range five() {
				d.Put(k, full(i+70))
				s.put(k, full(i+70))
			}
		},
		"notes": func(d *keydir.Dir, s *slow, key string, i int) { d.Note("c", full(i+90)); s.note("c", full(i+90)) },
		"points": func(d *keydir.Dir, s *slow, key string, i int) {
			for k, e := range d.All("", "") {
				d.Point(k, e.Offset, i+5, i+6)
				s.point(k, e.Offset, i+5, i+6)
			}
		},
	}
	for what, body := range bodies {
		for seed := range uint64(6) {
			d, s := filled(mixed(seed, append(five(), "bb")))
			for walk, w := range walks(d, s) {
				list := w.list()
				var got []api.KeyEntry
				for k, e := range w.seq {
					body(d, s, k, len(got))
					got = append(got, api.KeyEntry{Key: k, E: e})
				}
				wantList(t, walk+", its body "+what, got, list)
				wantList(t, walk+" anew, its body "+what, given(w.seq), w.list())
				wantKeys(t, "behind a body that "+what, d, s)
			}
		}
	}
}

// Goings through in one another, each from its own beginning.
func TestGoingThroughWithinAnother(t *testing.T) {
	d, s := filled(five())
	seq := d.All("", "")
	var got []string
	for k := range seq {
		d.Remove("b")
		for l := range seq {
			got = append(got, k+l)
		}
	}
	var wanted []string
	s.remove("b")
	for _, k := range five() {
		for _, l := range names(s.all("", "")) {
			wanted = append(wanted, k+l)
		}
	}
	wantList(t, "pairs", got, wanted)
}

func TestToCallDoesNothing(t *testing.T) {
	d, s := filled(five())
	for range 3 {
		d.All("", "")
		d.Prefix("b")
		d.All("z", "a")
	}
	wantKeys(t, "behind goings through that were never begun", d, s)
	next, stop := iter.Pull2(d.All("ab", ""))
	k, e, ok := next()
	d.Remove("b")
	l, f, more := next()
	stop()
	if k != "ab" || e != full(1) || !ok || l != "b" || f != full(2) || !more {
		t.Errorf("pulled %q, %v, %v and %q, %v, %v", k, e, ok, l, f, more)
	}
}
