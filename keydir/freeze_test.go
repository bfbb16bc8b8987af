package keydir_test

import (
	"fmt"
	"slices"
	"testing"

	"chronicle/api"
	"chronicle/keydir"
)

// changes is each way of changing a dir that has the keys of five.
func changes() map[string]func(d *keydir.Dir, s *slow) {
	return map[string]func(d *keydir.Dir, s *slow){
		"Put of a new key":  func(d *keydir.Dir, s *slow) { d.Put("z", full(9)); s.put("z", full(9)) },
		"Put of an old key": func(d *keydir.Dir, s *slow) { d.Put("b", full(9)); s.put("b", full(9)) },
		"Note":              func(d *keydir.Dir, s *slow) { d.Note("b", full(10)); s.note("b", full(10)) },
		"Note of a new key": func(d *keydir.Dir, s *slow) { d.Note("0", full(10)); s.note("0", full(10)) },
		"Point": func(d *keydir.Dir, s *slow) {
			for k, e := range d.All("", "") {
				d.Point(k, e.Offset, 77, 78)
				s.point(k, e.Offset, 77, 78)
			}
		},
		"Remove": func(d *keydir.Dir, s *slow) { d.Remove("b"); s.remove("b") },
		"Remove of all": func(d *keydir.Dir, s *slow) {
			for _, k := range five() {
				d.Remove(k)
				s.remove(k)
			}
		},
		"Put of many": func(d *keydir.Dir, s *slow) {
			for i, k := range numbered(40) {
				d.Put(k, full(i))
				s.put(k, full(i))
			}
		},
		"nothing": func(d *keydir.Dir, s *slow) {},
	}
}

// 8.9

// Three copies of one dir, of which each is changed in each way, ahead of the others and behind them.
func TestFreeze(t *testing.T) {
	for _, keys := range [][]string{nil, {"b"}, five(), {"c", "b", "ab", "a", "b\x00"}} {
		for first, one := range changes() {
			for second, other := range changes() {
				d, s := filled(keys)
				f := d.Freeze()
				g := f.Freeze()
				fs, gs := s.copy(), s.copy()
				one(d, s)
				wantKeys(t, "the frozen one behind "+first, f, fs)
				other(f, fs)
				what := first + ", then " + second
				wantKeys(t, "the first one behind "+what, d, s)
				wantKeys(t, "the second one behind "+what, f, fs)
				wantKeys(t, "the third one behind "+what, g, gs)
				one(g, gs)
				other(d, s)
				wantKeys(t, "the first one at the end of "+what, d, s)
				wantKeys(t, "the second one at the end of "+what, f, fs)
				wantKeys(t, "the third one at the end of "+what, g, gs)
			}
		}
	}
}

func TestFreezeIsAnotherDir(t *testing.T) {
	for _, d := range []*keydir.Dir{keydir.New(), {}} {
		f := d.Freeze()
		if f == nil || f == d {
			t.Fatal("Freeze answers the same dir, or none")
		}
		wantEmpty(t, "a frozen empty dir", f)
		d.Put("a", full(1))
		wantEmpty(t, "a frozen empty dir, the other one changed", f)
		f.Put("b", full(2))
		wantList(t, "the one", names(d.Range("", "", 9)), []string{"a"})
		wantList(t, "the other", names(f.Range("", "", 9)), []string{"b"})
	}
}

// A dir is frozen at each step of its life; at the end each copy is still as it was.
func TestFreezeAtEachStep(t *testing.T) {
	for what, keys := range orders(numbered(120)) {
		d, s := keydir.New(), &slow{}
		var copies []*keydir.Dir
		var slows []*slow
		freeze := func() { copies, slows = append(copies, d.Freeze()), append(slows, s.copy()) }
		for i, k := range keys {
			freeze()
			d.Put(k, full(i))
			s.put(k, full(i))
		}
		for i, k := range mixed(9, keys) {
			freeze()
			if i%3 == 0 {
				e, _ := s.get(k)
				d.Point(k, e.Offset, -1, -2)
				s.point(k, e.Offset, -1, -2)
			} else {
				d.Remove(k)
				s.remove(k)
			}
		}
		freeze()
		for i, f := range copies {
			wantKeys(t, fmt.Sprintf("keys put in %s, copy %d", what, i), f, slows[i])
		}
	}
}

// Of a dir that is gone through a copy is made, and one of the two is changed.
func TestFreezeWhileGoingThrough(t *testing.T) {
	d, s := filled(five())
	before := s.copy()
	var got []api.KeyEntry
	var f *keydir.Dir
	for k, e := range d.All("", "") {
		if k == "ab" {
			f = d.Freeze()
			f.Remove("b")
			d.Remove("c")
		}
		got = append(got, api.KeyEntry{Key: k, E: e})
	}
	wantList(t, "gone through", got, before.all("", ""))
	s.remove("c")
	wantKeys(t, "the one", d, s)
	before.remove("b")
	wantKeys(t, "the other", f, before)
}

// What was asked of a dir is of that dir: a going through that was called for is not one of its copy.
func TestGoingThroughStaysWithItsDir(t *testing.T) {
	d, s := filled(five())
	seq := d.All("", "")
	f := d.Freeze()
	frozen := f.Prefix("b")
	d.Put("bb", full(30))
	s.put("bb", full(30))
	f.Remove("b")
	wantList(t, "the one", given(seq), s.all("", ""))
	wantList(t, "the other", names(given(frozen)), []string{"b\x00"})
}

// A change costs a few new nodes, and a copy next to nothing, however many keys there are and in whatever order they came and went.
func TestCosts(t *testing.T) {
	// A side has at most three quarters of a node's weight: so in a tree of 20000 keys no way is longer than 31 nodes, in one of 1000 than 21. A turn makes a node or two beside them.
	const most, fewer = 45, 21
	for what, keys := range orders(numbered(20000)) {
		d := keydir.New()
		for i, k := range keys {
			d.Put(k, full(i))
		}
		costs := map[string]func(){
			"Freeze":            func() { d.Freeze() },
			"Put":               func() { d.Freeze().Put("\x00\x10\x20new", full(1)) },
			"Put of an old key": func() { d.Freeze().Put(keys[77], full(1)) },
			"Note":              func() { d.Freeze().Note("\x00\x10\x20new", full(1)) },
			"Remove":            func() { d.Freeze().Remove(keys[5555]) },
		}
		for call, f := range costs {
			if n := testing.AllocsPerRun(1, f); n > most || call == "Freeze" && n > 1 {
				t.Errorf("keys put in %s: %s makes %v new things", what, call, n)
			}
		}
		for order, leave := range orders(numbered(20000)) {
			f := d.Freeze()
			gone := slices.Clone(leave[:19000])
			for _, k := range gone {
				f.Remove(k)
			}
			want(t, "keys that are left", f.Len(), 1000)
			for n := 0; n < 1000; n += 50 {
				x, _ := f.Nth(n)
				if n := testing.AllocsPerRun(1, func() { f.Put(x.Key, x.E) }); n > fewer {
					t.Errorf("keys put in %s, removed %s: Put makes %v new things", what, order, n)
				}
			}
		}
	}
}
