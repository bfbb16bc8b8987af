package keydir_test

import (
	"fmt"
	"slices"
	"testing"

	"chronicle/api"
	"chronicle/keydir"
	"chronicle/probe"
)

// permuted gives each order of a list.
func permuted[T any](list []T, give func([]T)) {
	var place func(n int)
	place = func(n int) {
		if n == len(list) {
			give(list)
			return
		}
		for i := n; i < len(list); i++ {
			list[n], list[i] = list[i], list[n]
			place(n + 1)
			list[n], list[i] = list[i], list[n]
		}
	}
	list = slices.Clone(list)
	place(0)
}

// noted is a dir that such entries are noted in, in this order.
func noted(list []api.KeyEntry) *keydir.Dir {
	d := keydir.New()
	for _, x := range list {
		d.Note(x.Key, x.E)
	}
	return d
}

// 8.11

func TestNoteInAnyOrder(t *testing.T) {
	list := []api.KeyEntry{{Key: "a", E: full(0)}, {Key: "b", E: full(1)}, {Key: "a", E: full(2)}, {Key: "ab", E: full(3)}, {Key: "b", E: full(4)}, {Key: "a", E: full(5)}, {Key: "c", E: full(6)}}
	s := &slow{list: []api.KeyEntry{{Key: "a", E: full(5)}, {Key: "b", E: full(4)}, {Key: "ab", E: full(3)}, {Key: "c", E: full(6)}}}
	permuted(list, func(order []api.KeyEntry) {
		wantKeys(t, "noted in any order", noted(order), s)
	})
}

// Of several entries with the greatest offset the first one stays.
func TestFirstOfTheGreatestStays(t *testing.T) {
	var list []api.KeyEntry
	for i, offset := range []int64{3, 9, 9, 1, 9} {
		e := full(i)
		e.Offset = offset
		list = append(list, api.KeyEntry{Key: "k", E: e})
	}
	permuted(list, func(order []api.KeyEntry) {
		first := order[slices.IndexFunc(order, func(x api.KeyEntry) bool { return x.E.Offset == 9 })]
		wantKeys(t, "entries of one key", noted(order), &slow{list: []api.KeyEntry{first}})
	})
}

// An index of many records is the same, built from the first record on, from the last one, or in any order.
func TestIndexBuiltAnew(t *testing.T) {
	keys := texts(five())
	keys = slices.DeleteFunc(keys, func(k string) bool { return k == "" || len(k) > 64 })
	var records []api.KeyEntry
	for i, x := range probe.Noise(5, 2000) {
		records = append(records, api.KeyEntry{Key: keys[x%uint64(len(keys))], E: full(i)})
	}
	last := &slow{}
	for _, x := range records {
		last.put(x.Key, x.E)
	}
	wantKeys(t, "from the first on", noted(records), last)
	for seed := range uint64(10) {
		wantKeys(t, "in any order", noted(mixed(seed, records)), last)
	}
	slices.Reverse(records)
	wantKeys(t, "from the last on", noted(records), last)
}

// 8.12

// Many keys are put in and removed, in each order; on the way and at the end all is in its place.
func TestManyKeys(t *testing.T) {
	keys := numbered(600)
	for what, in := range orders(keys) {
		for how, out := range orders(keys) {
			d, s := keydir.New(), &slow{}
			for i, k := range in {
				d.Put(k, full(i))
				s.put(k, full(i))
			}
			wantKeys(t, "put in "+what, d, s)
			for i, k := range out {
				want, _ := s.remove(k)
				e, ok := d.Remove(k)
				wantEntry(t, "Remove", e, ok, want, true)
				if i%100 == 50 {
					wantKeys(t, fmt.Sprintf("put in %s, removed %s", what, how), d, s)
				}
			}
			wantEmpty(t, fmt.Sprintf("put in %s, removed %s", what, how), d)
		}
	}
}

func TestRankAndNthGoTogether(t *testing.T) {
	for what, in := range orders(numbered(20000)) {
		d := keydir.New()
		for i, k := range in {
			d.Put(k, full(i))
		}
		for n, k := range numbered(20000) {
			x, ok := d.Nth(n)
			e, there := d.Get(k)
			if !ok || !there || x.Key != k || x.E != e || d.Rank(k) != n {
				t.Fatalf("put in %s: Nth(%d) = %v, %v, its Rank %d, its entry %v, %v", what, n, x, ok, d.Rank(k), e, there)
			}
		}
		list := d.Range("", "", 20001)
		wantList(t, "Range", names(list), numbered(20000))
		for i := 1; i < len(list); i++ {
			if !below(list[i-1].Key, list[i].Key) {
				t.Fatalf("put in %s: %q behind %q", what, list[i].Key, list[i-1].Key)
			}
		}
	}
}
