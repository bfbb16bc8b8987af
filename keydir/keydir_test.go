package keydir_test

import (
	"fmt"
	"math"
	"testing"

	"chronicle/api"
	"chronicle/keydir"
	"chronicle/probe"
)

// 8.1

func TestNewIsEmpty(t *testing.T) {
	wantEmpty(t, "New", keydir.New())
	wantEmpty(t, "a zero Dir", new(keydir.Dir))
	if keydir.New() == nil || keydir.New() == keydir.New() {
		t.Error("New is nil, or the same twice")
	}
}

func TestZeroDirIsUsed(t *testing.T) {
	calls := map[string]func(d *keydir.Dir, s *slow){
		"Put":    func(d *keydir.Dir, s *slow) { d.Put("k", full(1)); s.put("k", full(1)) },
		"Note":   func(d *keydir.Dir, s *slow) { d.Note("k", full(1)); s.note("k", full(1)) },
		"Point":  func(d *keydir.Dir, s *slow) { d.Point("k", 0, 1, 2) },
		"Remove": func(d *keydir.Dir, s *slow) { d.Remove("k") },
		"Freeze": func(d *keydir.Dir, s *slow) { d.Freeze().Put("k", full(1)) },
	}
	for what, call := range calls {
		for _, d := range []*keydir.Dir{keydir.New(), {}} {
			s := &slow{}
			call(d, s)
			wantKeys(t, what, d, s)
			d.Put("l", full(2))
			s.put("l", full(2))
			wantKeys(t, what+" and Put", d, s)
		}
	}
}

func TestNilDir(t *testing.T) {
	var d *keydir.Dir
	for _, k := range texts(five()) {
		e, had, errno := d.Put(k, full(1))
		wantEntry(t, "Put", e, had, api.Entry{}, false)
		want(t, "Put", errno, api.ErrNil)
		ok, errno := d.Note(k, full(1))
		want(t, "Note", ok, false)
		want(t, "Note", errno, api.ErrNil)
	}
	if d.Freeze() != nil {
		t.Error("Freeze of nil is a dir")
	}
	wantEmpty(t, "a nil dir", d)
}

// 8.2

func TestPut(t *testing.T) {
	d := keydir.New()
	for i, e := range append(odd(), full(1), full(2), full(2)) {
		old, had, errno := d.Put("b", e)
		wantEntry(t, "Put", old, had, append([]api.Entry{{}}, append(odd(), full(1), full(2), full(2))...)[i], i > 0)
		want(t, "Put", errno, api.OK)
		got, ok := d.Get("b")
		wantEntry(t, "Get", got, ok, e, true)
		want(t, "Len", d.Len(), 1)
	}
}

func TestPutTakesAnyKey(t *testing.T) {
	d, s := keydir.New(), &slow{}
	for i, k := range mixed(3, strange()) {
		old, had, errno := d.Put(k, full(i))
		wantEntry(t, "Put", old, had, api.Entry{}, false)
		want(t, "Put", errno, api.OK)
		s.put(k, full(i))
		wantKeys(t, fmt.Sprintf("behind Put(%q)", k), d, s)
	}
	for i, k := range mixed(4, strange()) {
		was, _ := s.get(k)
		old, had, errno := d.Put(k, full(i+100))
		wantEntry(t, "Put again", old, had, was, true)
		want(t, "Put again", errno, api.OK)
		s.put(k, full(i+100))
		wantKeys(t, fmt.Sprintf("behind Put(%q) again", k), d, s)
	}
}

func TestPutTakesKeysOfEachLength(t *testing.T) {
	d, s := keydir.New(), &slow{}
	for n := range 70 {
		old, had, errno := d.Put(long(n), full(n))
		wantEntry(t, "Put", old, had, api.Entry{}, false)
		_, _, wanted := s.put(long(n), full(n))
		want(t, fmt.Sprintf("Put of %d bytes", n), errno, wanted)
	}
	wantKeys(t, "keys of each length", d, s)
	want(t, "how many lengths a key may have", d.Len(), 64)
}

func TestPutTakesEachByte(t *testing.T) {
	d, s := keydir.New(), &slow{}
	for n := range 256 {
		k := string([]byte{byte(n * 7)})
		d.Put(k, full(n))
		s.put(k, full(n))
	}
	want(t, "how many keys of one byte there are", d.Len(), 256)
	wantKeys(t, "each byte", d, s)
}

// Whatever is no key is refused by each call, of an empty dir and of one that is not.
func TestNoKeys(t *testing.T) {
	for _, keys := range [][]string{nil, strange()} {
		d, s := filled(keys)
		for _, k := range none() {
			old, had, errno := d.Put(k, full(1))
			wantEntry(t, "Put", old, had, api.Entry{}, false)
			want(t, "Put", errno, api.ErrKey)
			ok, errno := d.Note(k, full(1))
			want(t, "Note", ok, false)
			want(t, "Note", errno, api.ErrKey)
			want(t, "Point", d.Point(k, 0, 0, 0), false)
			e, ok := d.Get(k)
			wantEntry(t, "Get", e, ok, api.Entry{}, false)
			e, ok = d.Remove(k)
			wantEntry(t, "Remove", e, ok, api.Entry{}, false)
			wantKeys(t, "behind what is no key", d, s)
		}
	}
}

// 8.3

func TestNote(t *testing.T) {
	for _, c := range []struct {
		stands, offset int64
		ok             bool
	}{
		{7, 6, false}, {7, 7, false}, {7, 8, true}, {0, 0, false}, {0, 1, true}, {0, -1, false}, {-5, -5, false}, {-5, -4, true}, {-5, -6, false}, {-1, 0, true},
		{math.MinInt64, math.MinInt64, false}, {math.MinInt64, math.MinInt64 + 1, true}, {math.MinInt64, math.MaxInt64, true},
		{math.MaxInt64, math.MaxInt64, false}, {math.MaxInt64, math.MaxInt64 - 1, false}, {math.MaxInt64, math.MinInt64, false}, {math.MaxInt64 - 1, math.MaxInt64, true},
	} {
		d, s := filled(five())
		stands, noted := full(20), full(30)
		stands.Offset, noted.Offset = c.stands, c.offset
		d.Put("b", stands)
		s.put("b", stands)
		ok, errno := d.Note("b", noted)
		want(t, fmt.Sprintf("Note of %d where %d stands", c.offset, c.stands), ok, c.ok)
		want(t, "Note", errno, api.OK)
		if c.ok {
			s.put("b", noted)
		}
		wantKeys(t, "behind Note", d, s)
	}
}

func TestNoteOfNewKeys(t *testing.T) {
	for _, e := range append(odd(), full(1)) {
		d, s := keydir.New(), &slow{}
		for _, k := range mixed(5, strange()) {
			ok, errno := d.Note(k, e)
			want(t, "Note", ok, true)
			want(t, "Note", errno, api.OK)
			s.put(k, e)
		}
		wantKeys(t, "behind Note", d, s)
	}
}

func TestNoteBehindRemove(t *testing.T) {
	d, s := filled(five())
	d.Put("b", full(50))
	d.Remove("b")
	ok, errno := d.Note("b", full(2))
	want(t, "Note of a key that was there", ok, true)
	want(t, "Note", errno, api.OK)
	s.put("b", full(2))
	wantKeys(t, "behind Note", d, s)
}

// 8.4

func TestPoint(t *testing.T) {
	for _, e := range append(odd(), full(1), full(2)) {
		for _, place := range [][2]int{{5, 21}, {0, 0}, {-1, -2}, {math.MaxInt, math.MinInt}, {e.Seg, e.At}, {e.At, e.Seg}} {
			d, s := filled(five())
			d.Put("b", e)
			s.put("b", e)
			for _, beside := range []int64{e.Offset - 1, e.Offset + 1, ^e.Offset, e.Time + 1_000_000} {
				want(t, "Point beside", d.Point("b", beside, place[0], place[1]), false)
				wantKeys(t, "behind Point beside", d, s)
			}
			want(t, "Point", d.Point("b", e.Offset, place[0], place[1]), true)
			pointed := e
			pointed.Seg, pointed.At = place[0], place[1]
			s.put("b", pointed)
			wantKeys(t, "behind Point", d, s)
			want(t, "Point again", d.Point("b", e.Offset, 1, 2), true)
		}
	}
}

func TestPointOfEachKey(t *testing.T) {
	d, s := filled(strange())
	for _, k := range texts(strange()) {
		for offset := range int64(len(strange()) + 1) {
			got, wanted := d.Point(k, offset, int(offset)+1000, 2000-int(offset)), s.point(k, offset, int(offset)+1000, 2000-int(offset))
			if got != wanted {
				t.Errorf("Point(%q, %d) = %v", k, offset, got)
			}
		}
	}
	wantKeys(t, "each key pointed at", d, s)
}

// 8.5

func TestGet(t *testing.T) {
	d, s := filled(mixed(6, strange()))
	for _, k := range texts(strange()) {
		got, ok := d.Get(k)
		e, there := s.get(k)
		wantEntry(t, fmt.Sprintf("Get(%q)", k), got, ok, e, there)
	}
	wantKeys(t, "behind Get", d, s)
}

func TestRemove(t *testing.T) {
	for _, k := range texts(strange()) {
		d, s := filled(mixed(7, strange()))
		e, there := s.remove(k)
		got, ok := d.Remove(k)
		wantEntry(t, fmt.Sprintf("Remove(%q)", k), got, ok, e, there)
		wantKeys(t, "behind Remove", d, s)
		got, ok = d.Remove(k)
		wantEntry(t, fmt.Sprintf("Remove(%q) again", k), got, ok, api.Entry{}, false)
		got, ok = d.Get(k)
		wantEntry(t, fmt.Sprintf("Get(%q) behind Remove", k), got, ok, api.Entry{}, false)
		wantKeys(t, "behind Remove again", d, s)
	}
}

func TestRemoveAndPutAgain(t *testing.T) {
	d, s := filled(strange())
	for i, k := range mixed(8, strange()) {
		d.Remove(k)
		old, had, errno := d.Put(k, full(i+40))
		wantEntry(t, "Put behind Remove", old, had, api.Entry{}, false)
		want(t, "Put behind Remove", errno, api.OK)
		s.put(k, full(i+40))
		wantKeys(t, "behind Put behind Remove", d, s)
	}
}

// All calls that change, in an order that looks like none in particular, on keys that are often met, and on copies that are frozen on the way.
func TestAnyCalls(t *testing.T) {
	keys := texts([]string{"a", "\x00", "\xff", "a\x00b", "b", long(64)})
	for seed := range uint64(60) {
		dirs, slows := []*keydir.Dir{keydir.New()}, []*slow{{}}
		for step, x := range probe.Noise(seed+1, 150) {
			which := int(x>>8) % len(dirs)
			d, s := dirs[which], slows[which]
			k, offset := keys[x>>16%uint64(len(keys))], int64(x>>32%6)
			e := full(step)
			e.Offset = offset
			what := fmt.Sprintf("seed %d, step %d, key %q", seed, step, k)
			switch x % 8 {
			case 0, 1, 2:
				old, had, errno := d.Put(k, e)
				was, there, wanted := s.put(k, e)
				wantEntry(t, what+": Put", old, had, was, there)
				want(t, what+": Put", errno, wanted)
			case 3:
				ok, errno := d.Note(k, e)
				noted, wanted := s.note(k, e)
				want(t, what+": Note", ok, noted)
				want(t, what+": Note", errno, wanted)
			case 4:
				want(t, what+": Point", d.Point(k, offset, step, -step), s.point(k, offset, step, -step))
			case 5, 6:
				got, ok := d.Remove(k)
				was, there := s.remove(k)
				wantEntry(t, what+": Remove", got, ok, was, there)
			case 7:
				dirs, slows = append(dirs, d.Freeze()), append(slows, s.copy())
			}
			wantKeys(t, what, d, s)
		}
		for i, d := range dirs {
			wantKeys(t, fmt.Sprintf("seed %d, dir %d at the end", seed, i), d, slows[i])
		}
	}
}
