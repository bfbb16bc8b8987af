package keydir_test

import (
	"bytes"
	"iter"
	"math"
	"slices"
	"strings"
	"testing"

	"chronicle/api"
	"chronicle/keydir"
	"chronicle/probe"
)

// full is an entry of which no field is zero, unlike those of other n.
func full(n int) api.Entry {
	return api.Entry{Seg: 7*n + 1, At: 11*n + 2, Size: 13*n + 3, Offset: int64(n), Time: int64(17*n + 4), Tomb: n%2 == 0}
}

// odd is entries whose numbers mean nothing.
func odd() []api.Entry {
	return []api.Entry{
		{},
		{Tomb: true},
		{Seg: -1, At: -2, Size: -3, Offset: -4, Time: -5},
		{Seg: math.MaxInt, At: math.MinInt, Size: math.MaxInt, Offset: math.MinInt64, Time: math.MaxInt64, Tomb: true},
		{Seg: math.MinInt, At: math.MaxInt, Size: math.MinInt, Offset: math.MaxInt64, Time: math.MinInt64},
	}
}

// five is the keys of the chapter's examples, rising.
func five() []string { return []string{"a", "ab", "b", "b\x00", "c"} }

// long is a text of n bytes.
func long(n int) string { return strings.Repeat("x", n) }

// strange is keys of which some begin others, some have as many bytes as a key may have, and some no bytes but 0 and 255.
func strange() []string {
	keys := []string{
		"\x00", "\x00\x00", "\x00\xff", "\x01", "a", "a\x00", "a\x00\x00", "aa", "a\xff", "a\xff\xff", "b", "\x7f", "\x80", "\xc3\x28", "ä",
		"\xfe\xff", "\xff", "\xff\x00", "\xff\xfe", "\xff\xff", "\xff\xff\xff",
		long(63), long(64), strings.Repeat("\x00", 64), strings.Repeat("\xff", 63), strings.Repeat("\xff", 64), "\xff" + long(63),
	}
	sortKeys(keys)
	return keys
}

// none is texts that are no keys.
func none() []string {
	return []string{"", long(65), strings.Repeat("\xff", 65), strings.Repeat("\x00", 65), long(64) + "\x00", long(5000)}
}

// texts is keys and texts that are none, to be asked for: those of keys, what lies beside them, and some more.
func texts(keys []string) []string {
	list := append(none(), "\x00", "\xff", "a", "b", "bz", "m", "zz")
	for _, k := range keys {
		list = append(list, k, k+"\x00", k+"\xff", k[:len(k)-1], k[:len(k)-1]+string([]byte{k[len(k)-1] - 1}), k[:len(k)-1]+string([]byte{k[len(k)-1] + 1}))
	}
	sortKeys(list)
	return slices.Compact(list)
}

func sortKeys(keys []string) {
	slices.SortFunc(keys, func(a, b string) int { return bytes.Compare([]byte(a), []byte(b)) })
}

// below tells whether a text is below another one, byte by byte.
func below(a, b string) bool {
	for i := range min(len(a), len(b)) {
		if a[i] != b[i] {
			return a[i] < b[i]
		}
	}
	return len(a) < len(b)
}

// slow is a dir as the chapter tells it: a list of keys in no order, which is gone through for all that is asked.
type slow struct{ list []api.KeyEntry }

func (s *slow) place(key string) int {
	return slices.IndexFunc(s.list, func(x api.KeyEntry) bool { return x.Key == key })
}

func (s *slow) get(key string) (api.Entry, bool) {
	if i := s.place(key); i >= 0 {
		return s.list[i].E, true
	}
	return api.Entry{}, false
}

func (s *slow) remove(key string) (api.Entry, bool) {
	e, ok := s.get(key)
	s.list = slices.DeleteFunc(s.list, func(x api.KeyEntry) bool { return x.Key == key })
	return e, ok
}

func (s *slow) put(key string, e api.Entry) (api.Entry, bool, api.Errno) {
	if len(key) < 1 || len(key) > 64 {
		return api.Entry{}, false, api.ErrKey
	}
	old, had := s.remove(key)
	s.list = append(s.list, api.KeyEntry{Key: key, E: e})
	return old, had, api.OK
}

func (s *slow) note(key string, e api.Entry) (bool, api.Errno) {
	if len(key) < 1 || len(key) > 64 {
		return false, api.ErrKey
	}
	if old, had := s.get(key); had && !(old.Offset < e.Offset) {
		return false, api.OK
	}
	s.put(key, e)
	return true, api.OK
}

func (s *slow) point(key string, offset int64, seg, at int) bool {
	i := s.place(key)
	if i < 0 || s.list[i].E.Offset != offset {
		return false
	}
	s.list[i].E.Seg, s.list[i].E.At = seg, at
	return true
}

// chosen is the keys that are wanted, each behind as many as are below it.
func (s *slow) chosen(wanted func(key string) bool) []api.KeyEntry {
	var list []api.KeyEntry
	for _, x := range s.list {
		if wanted(x.Key) {
			list = append(list, x)
		}
	}
	slices.SortFunc(list, func(a, b api.KeyEntry) int { return bytes.Compare([]byte(a.Key), []byte(b.Key)) })
	return list
}

func (s *slow) rank(text string) int {
	return len(s.chosen(func(key string) bool { return below(key, text) }))
}

func (s *slow) all(lo, hi string) []api.KeyEntry {
	return s.chosen(func(key string) bool { return !below(key, lo) && (hi == "" || below(key, hi)) })
}

func (s *slow) prefix(p string) []api.KeyEntry {
	return s.chosen(func(key string) bool { return len(key) >= len(p) && key[:len(p)] == p })
}

func (s *slow) copy() *slow { return &slow{list: slices.Clone(s.list)} }

// filled is a dir with these keys, put in in this order, each with an entry of its own, and the slow one.
func filled(keys []string) (*keydir.Dir, *slow) {
	d, s := keydir.New(), &slow{}
	for i, k := range keys {
		d.Put(k, full(i))
		s.put(k, full(i))
	}
	return d, s
}

// given is all that a going through gives.
func given(seq iter.Seq2[string, api.Entry]) []api.KeyEntry {
	var list []api.KeyEntry
	for k, e := range seq {
		list = append(list, api.KeyEntry{Key: k, E: e})
	}
	return list
}

// names is the keys of a list.
func names(list []api.KeyEntry) []string {
	var keys []string
	for _, x := range list {
		keys = append(keys, x.Key)
	}
	return keys
}

// numbered is n keys, rising, of unlike lengths.
func numbered(n int) []string {
	keys := make([]string, n)
	for i := range keys {
		keys[i] = string([]byte{byte(i >> 16), byte(i >> 8), byte(i)}) + long(i%5)
	}
	return keys
}

// orders is the same keys, rising, falling, mixed and from both ends in turn.
func orders(keys []string) map[string][]string {
	rising := slices.Clone(keys)
	falling := slices.Clone(keys)
	slices.Reverse(falling)
	var ends []string
	for i := range keys {
		if i%2 == 0 {
			ends = append(ends, keys[i/2])
		} else {
			ends = append(ends, keys[len(keys)-1-i/2])
		}
	}
	inward := slices.Clone(ends)
	slices.Reverse(inward)
	return map[string][]string{"rising": rising, "falling": falling, "from both ends": ends, "from the middle": inward, "mixed": mixed(1, keys), "otherwise mixed": mixed(2, keys)}
}

// mixed is the same list in an order that looks like none in particular.
func mixed[T any](seed uint64, list []T) []T {
	list = slices.Clone(list)
	for i, x := range probe.Noise(seed, len(list)) {
		k := int(x % uint64(i+1))
		list[i], list[k] = list[k], list[i]
	}
	return list
}

// want fails if an answer is another one than is wanted.
func want[T comparable](t *testing.T, what string, got, wanted T) {
	t.Helper()
	if got != wanted {
		t.Errorf("%s: %v, want %v", what, got, wanted)
	}
}

func wantList[T comparable](t *testing.T, what string, got, wanted []T) {
	t.Helper()
	if !slices.Equal(got, wanted) {
		t.Errorf("%s: %.300v, want %.300v", what, got, wanted)
	}
}

// wantEntry fails unless an entry is answered, and whether there is one.
func wantEntry(t *testing.T, what string, got api.Entry, ok bool, wanted api.Entry, there bool) {
	t.Helper()
	if got != wanted || ok != there {
		t.Errorf("%s: %v, %v, want %v, %v", what, got, ok, wanted, there)
	}
}

// wantKeys fails unless a dir has just these keys and entries, however it is asked for them.
func wantKeys(t *testing.T, what string, d *keydir.Dir, s *slow) {
	t.Helper()
	list := s.all("", "")
	want(t, what+": Len", d.Len(), len(list))
	wantList(t, what+": All", given(d.All("", "")), list)
	wantList(t, what+": Prefix", given(d.Prefix("")), list)
	wantList(t, what+": Range", d.Range("", "", math.MaxInt), list)
	for n, x := range list {
		e, ok := d.Get(x.Key)
		wantEntry(t, what+": Get", e, ok, x.E, true)
		got, ok := d.Nth(n)
		if !ok || got != x {
			t.Errorf("%s: Nth(%d) = %v, %v, want %v", what, n, got, ok, x)
		}
		want(t, what+": Rank", d.Rank(x.Key), n)
	}
}

// wantEmpty fails unless a dir holds nothing, whatever it is asked for.
func wantEmpty(t *testing.T, what string, d *keydir.Dir) {
	t.Helper()
	wantKeys(t, what, d, &slow{})
	for _, k := range texts(strange()) {
		e, ok := d.Get(k)
		wantEntry(t, what+": Get", e, ok, api.Entry{}, false)
		e, ok = d.Remove(k)
		wantEntry(t, what+": Remove", e, ok, api.Entry{}, false)
		want(t, what+": Point", d.Point(k, 0, 1, 2), false)
		want(t, what+": Rank", d.Rank(k), 0)
		wantList(t, what+": Prefix", given(d.Prefix(k)), nil)
		wantList(t, what+": All", given(d.All(k, "")), nil)
		wantList(t, what+": All", given(d.All("", k)), nil)
		wantList(t, what+": Range", d.Range(k, "", 9), nil)
	}
	for _, n := range []int{math.MinInt, -1, 0, 1, math.MaxInt} {
		x, ok := d.Nth(n)
		if ok || x != (api.KeyEntry{}) {
			t.Errorf("%s: Nth(%d) = %v, %v", what, n, x, ok)
		}
		wantList(t, what+": Range", d.Range("", "", n), nil)
	}
}
