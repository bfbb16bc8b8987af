package mirror_test

import (
	"fmt"
	"slices"
	"testing"

	"chronicle/api"
	"chronicle/merge"
	"chronicle/probe"
	"chronicle/topic"
)

// script is a double to which things are done by chance.
type script struct {
	*double
	dice  []uint64
	count map[string]int
	limit int
}

func (s *script) roll(n int) int {
	x := s.dice[0]
	s.dice = s.dice[1:]
	return int(x >> 20 % uint64(n))
}

// one is one of a list.
func one[T any](s *script, list ...T) T { return list[s.roll(len(list))] }

// record is some record of an offset.
func (s *script) record(off int64) api.Record {
	key := fmt.Sprint("k", s.roll(12))
	if s.roll(4) == 0 {
		return tomb(off, key)
	}
	return value(off, key, probe.Text(uint64(s.roll(500)), s.roll(3)*s.roll(60)))
}

// likely is a response that a broker may well give now, as far as the slow mirror knows.
func (s *script) likely() api.Response {
	id := uint32(len(s.s.told))
	tails := id == 0 || s.s.told[id-1] == "tail"
	switch {
	case !s.s.answered && tails:
		number := s.s.number
		if number == 0 || s.roll(6) == 0 {
			number = int64(1 + s.roll(8))
		}
		return subscribed(id, s.s.at, number)
	case !s.s.answered:
		return snapped(id, int64(s.roll(300)), int64(1+s.roll(8)))
	case tails:
		off := s.s.at
		r := delivered(id, 0)
		for range s.roll(5) {
			off += int64(s.roll(2) * s.roll(3))
			r.Records = append(r.Records, s.record(off))
			off++
		}
		r.Offset = min(off+int64(s.roll(2)*s.roll(3)), 390)
		return r
	}
	r := delivered(id, s.s.moment)
	ahead := ""
	if len(s.s.keys) > 0 {
		ahead = s.s.keys[len(s.s.keys)-1]
	}
	for i := range 12 {
		if key := fmt.Sprint("k", i); s.roll(4) == 0 {
			r.Records = append(r.Records, value(int64(s.roll(99)), key, fmt.Sprint(s.roll(50))))
		}
	}
	slices.SortFunc(r.Records, func(a, b api.Record) int { return cmpText(a.Key, b.Key) })
	r.Records = slices.DeleteFunc(r.Records, func(x api.Record) bool { return x.Key <= ahead })
	r.More = s.roll(3) > 0
	return r
}

// response is some response.
func (s *script) response() api.Response {
	r := s.likely()
	switch s.roll(60) {
	case 0, 1:
		r = refused(r.Id, one(s, api.OpDeliver, api.OpSubscribe, api.OpSnapshot), one(s, 6, 6, 11, 2, 4, s.roll(12)))
	case 2, 3, 4:
		r = delivered(uint32(s.roll(int(r.Id)+2)), int64(s.roll(300)), s.record(int64(s.roll(300))))
	case 5:
		r.Offset += int64(s.roll(5) - 2)
	case 6:
		r.Number = int64(s.roll(9) - 1)
	case 7:
		r.More = !r.More
	case 8:
		r.Records = append(r.Records, s.record(int64(s.roll(300))))
	case 9:
		r.Op = one(s, api.OpDeliver, api.OpSubscribe, api.OpSnapshot, api.OpGet)
	}
	return r
}

// bytes is what comes from a source: responses, and what is none.
func (s *script) bytes() []byte {
	var list []api.Response
	for range 1 + s.roll(2)*s.roll(3) {
		list = append(list, s.response())
	}
	b := frames(s.t, list...)
	switch s.roll(60) {
	case 0:
		return append(b, byte(s.roll(256)))
	case 1:
		b[s.roll(len(b))] ^= byte(1 + s.roll(255))
	case 2:
		return b[:s.roll(len(b))]
	}
	return b
}

// both does the same to the topics of both.
func (s *script) both(do func(p *topic.Topic)) {
	do(s.m.Topic())
	do(s.s.held)
}

// act does something, and looks at what it has come to.
func (s *script) act(what string) {
	n := s.roll(100)
	switch {
	case n < 14:
		s.ask(what)
	case n < 74:
		if s.roll(30) > 0 { // nothing is expected ahead of what is to be asked
			s.ask(what)
		}
		var cuts []int
		for range s.roll(4) {
			cuts = append(cuts, s.roll(5000))
		}
		b := s.bytes()
		s.hear(what, b, cuts...)
		s.count[fmt.Sprint("heard, state ", s.m.State().State)]++
	case n < 82:
		s.commitBoth(what)
		s.count["committed"]++
	case n < 87:
		s.lose()
	case n < 89:
		s.both(func(p *topic.Topic) { p.Roll() })
	case n < 93:
		s.both(func(p *topic.Topic) {
			for m, _ := merge.Start(p); !m.Over(); {
				m.Step(s.now)
			}
		})
		s.count["merged"]++
	case n < 96:
		s.now += int64(s.roll(40))
		if s.roll(8) == 0 {
			s.now = one(s, int64(-1), lastTime+1, 0, s.now)
		}
	case n < 97:
		quota := one(s, wide, s.d.Used()+api.Reserve+s.roll(300))
		s.d.SetQuota(quota)
		s.s.d.SetQuota(quota)
	case n < 98 && s.roll(3) == 0:
		fuse := s.roll(12)
		s.d.Fuse(fuse)
		s.s.d.Fuse(fuse)
	default:
		s.crash(what)
	}
	if s.d.Dead() {
		s.count["the power went"]++
		s.wantSame(what + ", dead")
		s.crash(what)
	}
	if ended := s.s.ended; ended != "" {
		s.count[ended]++
		if s.roll(5) > 0 {
			s.lose()
		}
	}
	if s.s.inSnap {
		s.count["in a snapshot"]++
	}
	s.wantSame(what)
}

// crash opens both over what a crash leaves, with the same picks.
func (s *script) crash(what string) {
	s.t.Helper()
	var picks []int
	for range s.roll(20) {
		picks = append(picks, s.roll(1000))
	}
	image := s.d.Crash(picks)
	want(s.t, what+": a crash leaves the same", probe.Key(image), probe.Key(s.s.d.Crash(picks)))
	s.now = max(s.now, 0)
	s.double = doubled(s.t, image, s.limit, min(s.now, lastTime))
	s.count["opened"]++
}

// 22.2 to 22.8: by chance, every answer and every byte on the disk is as the slow mirror's.
func TestScripts(t *testing.T) {
	count := map[string]int{}
	for seed := range uint64(150) {
		limit := []int{256, 300, 1000, 65536}[seed%4]
		s := &script{double: doubled(t, nil, limit, 0), dice: probe.Noise(seed+1, 60000), count: count, limit: limit}
		for i := range 250 {
			s.act(fmt.Sprintf("seed %d, act %d", seed, i))
			if t.Failed() {
				t.FailNow()
			}
		}
	}
	for what, least := range map[string]int{"heard, state 0": 300, "heard, state 1": 1000, "heard, state 2": 3000, "heard, state 3": 100, "committed": 1000, "merged": 500, "the power went": 20, "idle": 300, "broken": 300, "in a snapshot": 1000, "opened": 300} {
		if count[what] < least {
			t.Errorf("%s: %d times", what, count[what])
		}
	}
	t.Log(count)
}
