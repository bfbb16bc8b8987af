package mirror_test

import (
	"fmt"
	"testing"

	"chronicle/api"
	"chronicle/mirror"
	"chronicle/probe"
	"chronicle/simfs"
	"chronicle/wire"
)

// spot is where a mirror was: in the topic of a number, at a position.
type spot struct{ number, position int64 }

// teller tells a mirror of "t" what a source would: the topic of a number, as it was written to up to an offset.
type teller struct {
	t      *testing.T
	d      *simfs.Disk
	m      *mirror.Mirror
	number int64
	seen   []spot // where the mirror was, one behind the other
	firm   int    // the last one of seen that a Commit answered OK behind
}

// log is what the source of a number has: records of all offsets, eight keys.
func (s *teller) log(off int64) api.Record {
	key := fmt.Sprint("k", (off*5+off/3)%8)
	if off%7 == 4 {
		return tomb(off, key)
	}
	return value(off, key, fmt.Sprintf("%d of %d %s", off, s.number, probe.Text(uint64(off), 25)))
}

// fold is what lives ahead of an offset.
func (s *teller) fold(end int64) map[string]string {
	all := map[string]string{}
	for off := range end {
		r := s.log(off)
		if delete(all, r.Key); r.Kind == api.KValue {
			all[r.Key] = r.Value
		}
	}
	return all
}

func (s *teller) see() {
	if now := (spot{s.number, s.m.State().Position}); now != s.seen[len(s.seen)-1] {
		s.seen = append(s.seen, now)
	}
}

// asked is what the mirror asks; nothing, if that is nothing.
func (s *teller) asked() api.Request {
	r, _ := wire.DecodeRequest(s.m.Ask())
	return r
}

// tell follows what is asked, up to an end, in pieces of so many records. Where a snapshot is begun with it is told in parts.
func (s *teller) tell(end int64, piece int) {
	r := s.asked()
	if r.Op == api.OpSubscribe {
		s.m.Hear(0, frames(s.t, subscribed(r.Id, r.Offset, s.number)))
		for off := r.Offset; off < end && s.m.State().State == api.MirTail; {
			next := min(off+int64(piece), end)
			var recs []api.Record
			for ; off < next; off++ {
				recs = append(recs, s.log(off))
			}
			if s.m.Hear(0, frames(s.t, delivered(r.Id, next, recs...))) != api.OK {
				return
			}
			s.see()
		}
		r = s.asked() // something, if another number was known
	}
	if r.Op == api.OpSnapshot {
		s.snap(r.Id, end)
		s.asked()
	}
}

// snap tells a snapshot of a moment.
func (s *teller) snap(id uint32, moment int64) {
	s.m.Hear(0, frames(s.t, snapped(id, moment, s.number)))
	all := s.fold(moment)
	for i := range 8 {
		key := fmt.Sprint("k", i)
		r := delivered(id, moment)
		if v, lives := all[key]; lives {
			r.Records = []api.Record{value(0, key, v)}
		}
		r.More = i < 7
		s.m.Hear(0, frames(s.t, r))
	}
	s.see()
}

func (s *teller) commit() {
	if at := len(s.seen) - 1; s.m.Commit() == api.OK && s.m.State().State == api.MirTail {
		s.firm = at
	}
}

// passed tells that the horizon has passed it, and takes a snapshot.
func (s *teller) passed(moment int64) {
	s.m.Lost()
	r := s.asked()
	if r.Op != api.OpSubscribe {
		return
	}
	s.m.Hear(0, frames(s.t, refused(r.Id, r.Op, api.CodeHorizonPassed)))
	if r = s.asked(); r.Op == api.OpSnapshot {
		s.snap(r.Id, moment)
	}
}

// merge rolls and merges the copy.
func (s *teller) merge() {
	s.m.Topic().Roll()
	stepped(s.m.Topic())
}

// tales are what is done until the power goes.
func tales() map[string]func(s *teller) {
	return map[string]func(s *teller){
		"tailing": func(s *teller) {
			s.commit()
			s.tell(5, 2)
			s.commit()
			s.m.Lost()
			s.tell(11, 3)
			s.merge()
			s.m.Lost()
			s.tell(17, 1)
			s.commit()
			s.commit()
			s.merge()
			s.m.Lost()
			s.tell(23, 5)
			s.commit()
		},
		"snapshots": func(s *teller) {
			s.tell(9, 4)
			s.commit()
			s.passed(12)
			s.commit()
			s.passed(20)
			s.merge()
			s.m.Lost()
			s.tell(23, 2)
			s.commit()
		},
		"other topics": func(s *teller) {
			s.tell(9, 4)
			s.commit()
			s.number = 2
			s.m.Lost()
			s.tell(4, 4)
			s.commit()
			s.number = 3
			s.m.Lost()
			s.tell(6, 1)
			s.m.Lost()
			s.tell(12, 1)
			s.commit()
		},
		"a snapshot that is cut": func(s *teller) {
			s.tell(7, 3)
			s.commit()
			s.m.Lost()
			r := s.asked()
			s.m.Hear(0, frames(s.t, refused(r.Id, r.Op, api.CodeHorizonPassed)))
			if r = s.asked(); r.Op == api.OpSnapshot {
				all := s.fold(30)
				s.m.Hear(0, frames(s.t, snapped(r.Id, 30, 1), delivered(r.Id, 30, value(0, "k0", all["k0"]), value(0, "k5", all["k5"]))))
			}
			s.m.Commit()
			s.m.Topic().Roll()
			s.passed(12)
			s.commit()
		},
	}
}

// 22.10, 22.9: the power goes at each operation of a tale; what it leaves is opened; then the place is one that was reached, not ahead of the last that was committed; and from there on it comes to the source.
func TestPowerGoesInATale(t *testing.T) {
	for name, tale := range tales() {
		begin := func(fuse int) *teller {
			d, _ := simfs.New(wide)
			m, e := mirror.Open(d, "t", copyId, 256, 0)
			want(t, "Open", e, api.OK)
			d.Fuse(fuse)
			return &teller{t: t, d: d, m: m, number: 1, seen: []spot{{}}}
		}
		whole := begin(-1)
		ops := -whole.d.Ops()
		tale(whole)
		ops += whole.d.Ops()
		want(t, name+": operations", ops > 20, true)
		images := 0
		for fuse := range ops + 1 {
			s := begin(fuse)
			tale(s)
			want(t, name+": the power goes", s.d.Dead(), fuse < ops)
			for i, image := range probe.Leavings(s.d) {
				if i%4 != fuse%4 {
					continue
				}
				images++
				s.wantGoesOn(fmt.Sprintf("%s with power for %d, image %d", name, fuse, i), image)
			}
			if t.Failed() {
				t.FailNow()
			}
		}
		want(t, name+": many images", images > 100, true)
		t.Log(name, ops, images)
	}
}

// wantGoesOn opens an image, and fails unless the mirror is where it was once, and comes to the source from there.
func (s *teller) wantGoesOn(what string, image []api.File) {
	s.t.Helper()
	place := noteOf(s.t, image, "at")
	d := loaded(s.t, image)
	m, e := mirror.Open(d, "t", copyId, 256, 0)
	want(s.t, what+": Open", e, api.OK)
	at := -1
	for i, was := range s.seen {
		if i >= s.firm && was.position == m.State().Position && (place == "none" || place == placed(was.number, was.position)) {
			at = i
		}
	}
	want(s.t, what+fmt.Sprintf(": the place %x is one of %v from %d on", place, s.seen, s.firm), at >= 0, true)
	again := &teller{t: s.t, d: d, m: m, number: s.number, seen: []spot{{}}}
	for _, end := range []int64{23, 30} {
		again.m.Lost()
		again.tell(end, 6)
		if end == 30 {
			want(s.t, what+": State", m.State(), api.MirState{State: api.MirTail, Position: end, Keys: m.State().Keys, Pending: m.State().Pending})
		}
	}
	want(s.t, what+": Commit", m.Commit(), api.OK)
	all := map[string]string{}
	for _, p := range m.Pairs() {
		all[p.Key] = p.Value
	}
	want(s.t, what+": Pairs", fmt.Sprint(all), fmt.Sprint(again.fold(30)))
}
