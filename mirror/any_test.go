package mirror_test

import (
	"fmt"
	"slices"
	"testing"

	"chronicle/api"
	"chronicle/probe"
)

// talk is what a source may have said, response by response; a "?" says that the mirror asks ahead of it.
func talk() []any {
	return []any{
		"?", subscribed(1, 0, 4), delivered(1, 3, value(0, "a", "1"), value(1, "b", "2"), tomb(2, "a")), delivered(1, 9, value(7, "c", bulk(1))),
		refused(1, api.OpDeliver, api.CodeHorizonPassed), "?", delivered(1, 12), snapped(2, 20, 4), delivered(2, 20, value(3, "b", "5"), value(12, "d", "6")), delivered(2, 20), final(2, 20, value(19, "e", "7")),
		"?", subscribed(3, 20, 4), delivered(3, 21, tomb(20, "b")), refused(3, api.OpSubscribe, api.CodeBeyond), "?", snapped(4, 2, 9), final(4, 2, value(0, "z", "9")),
		"?", subscribed(5, 2, 9), delivered(5, 4, value(2, "y", "1")), refused(5, api.OpDeliver, api.CodeNoTopic), delivered(5, 9),
	}
}

// harmed is some frames, damaged: bytes changed, left out, put in, doubled, frames left out or laid elsewhere.
func harmed(s *script, all [][]byte) [][]byte {
	all = slices.Clone(all)
	i := s.roll(len(all))
	b := slices.Clone(all[i])
	at := s.roll(len(b) + 1)
	if at == len(b) {
		return append(all, []byte{byte(at)})
	}
	switch s.roll(9) {
	case 0, 1:
		b[at] ^= byte(1 << s.roll(8))
	case 2:
		b = b[:at]
	case 3:
		b = slices.Insert(b, at, byte(s.roll(256)))
	case 4:
		b = slices.Concat(b, b)
	case 5:
		b = nil
	case 6:
		j := s.roll(len(all))
		all[i], all[j] = all[j], all[i]
		return all
	case 7:
		b = append(b[:at], probe.Text(uint64(s.roll(1000)), s.roll(30))...)
	case 8: // another body, rightly framed
		if len(b) > 10 {
			b[9+s.roll(len(b)-9)] = byte(s.roll(256))
			b = body(s.t, string(b[9:]))
		}
	}
	all[i] = b
	return all
}

// 22.11: whatever is heard, it does what the slow one does, and ends.
func TestAnyBytes(t *testing.T) {
	seen := map[int]int{}
	for seed := range uint64(3000) {
		s := &script{double: doubled(t, nil, usual, 0), dice: probe.Noise(seed+1, 400)}
		var all [][]byte
		var asks []int
		for _, x := range talk() {
			if r, ok := x.(api.Response); ok {
				all = append(all, frames(t, r))
			} else {
				asks = append(asks, len(all))
			}
		}
		all = all[:1+s.roll(len(all))]
		for range s.roll(3) {
			all = harmed(s, all)
		}
		what := fmt.Sprint("seed ", seed)
		for i, b := range all {
			if slices.Contains(asks, i) {
				s.ask(what)
			}
			s.hear(what, b, s.roll(100), s.roll(1000))
			want(t, what+": State", s.m.State(), s.s.state())
		}
		s.ask(what)
		s.commitBoth(what)
		s.wantSame(what)
		seen[s.m.State().State]++
		s.lose()
		s.ask(what)
		s.hear(what, frames(t, subscribed(1, s.s.at, max(1, s.s.number))))
		s.wantSame(what + ", and on")
		if t.Failed() {
			t.FailNow()
		}
	}
	for state, least := range []int{100, 100, 100, 1000} {
		if seen[state] < least {
			t.Errorf("the state %d was seen %d times", state, seen[state])
		}
	}
	t.Log(seen)
}

// 22.11: bytes of no kind, and frames of all bodies of at most two bytes: they break it.
func TestBytesOfNoSource(t *testing.T) {
	for _, s := range stands() {
		if !slices.Contains([]string{"asked", "tails at 2", "passed", "takes one, and has a part"}, s.name) {
			continue
		}
		k := s.at(t)
		ahead := k.m.State().Position
		for n := range 65536 + 256 {
			text := string([]byte{byte(n >> 8), byte(n)})
			if n >= 65536 {
				text = string([]byte{byte(n)})
			}
			if e := k.m.Hear(0, body(t, text)); e != api.ErrSource || k.m.State().State != api.MirBroken {
				t.Fatalf("%s: the body %x: %d", s.name, text, e)
			}
			k.m.Lost()
			k.m.Ask()
		}
		for seed := range uint64(2000) {
			if e := k.m.Hear(0, []byte("\xc4"+probe.Text(seed, 300))); e != api.ErrSource {
				t.Fatalf("%s: seed %d: %d", s.name, seed, e)
			}
			k.m.Lost()
			k.m.Ask()
			k.m.Hear(0, []byte("\xc5\x00\x00\x00"+probe.Text(seed, 300)))
			k.m.Lost()
			k.m.Ask()
		}
		want(t, s.name+": the position", k.m.State().Position, ahead)
		k.hears("it goes on", api.OK, subscribed(1, ahead, 4), delivered(1, ahead+1))
	}
}
