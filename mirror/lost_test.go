package mirror_test

import (
	"fmt"
	"testing"

	"chronicle/api"
	"chronicle/mirror"
)

// 22.6: at each stand.
func TestLostEverywhere(t *testing.T) {
	for _, s := range stands() {
		k := s.at(t)
		before, p := k.m.State(), k.m.Topic()
		for range 2 {
			untouched(t, s.name, k.d, k.lose)
			before.State = api.MirIdle
			want(t, s.name+": State", k.m.State(), before)
			want(t, s.name+": the copy is the same", k.m.Topic(), p)
			k.wantSame(s.name)
		}
		k.ask(s.name)
		k.hear(s.name, frames(t, subscribed(1, before.Position, 4), snapped(1, 9, 4)))
		k.wantSame(s.name + ", and on")
		k.commitBoth(s.name)
		k.wantSame(s.name + ", committed")
	}
	var none *mirror.Mirror
	none.Lost()
	(&mirror.Mirror{}).Lost()
	want(t, "nil", none.State(), api.MirState{})
}

// 22.6: what was told of a frame that is not whole is gone too.
func TestLostInTheMidstOfAFrame(t *testing.T) {
	b := frames(t, subscribed(1, 0, 4))
	for cut := range len(b) {
		for _, asked := range []bool{false, true} {
			k := fresh(t)
			if asked {
				k.tails("ahead", 1, 0)
			}
			want(t, "a part", k.m.Hear(0, b[:cut]), api.OK)
			k.m.Lost()
			k.tails("lost", 1, 0)
			k.hears("lost", api.OK, subscribed(1, 0, 5))
			k.wantState("lost", api.MirTail, 0, 0, 0)
		}
	}
	k := fresh(t)
	k.tails("a frame that is too long", 1, 0)
	want(t, "a frame that is too long", k.m.Hear(0, []byte{0xc5, 0, 0, 0x20, 0}), api.ErrSource)
	k.m.Lost()
	k.tails("lost", 1, 0)
	k.hears("lost", api.OK, subscribed(1, 0, 4), delivered(1, 1))
}

// 22.6: the position and the source's number stay, noted or not; of a snapshot that is not whole those ahead of it.
func TestLostKeepsThePlace(t *testing.T) {
	k := fresh(t)
	k.tails("a number", 1, 0)
	k.hears("a number", api.OK, subscribed(1, 0, 4))
	k.m.Lost()
	k.tails("a number", 1, 0)
	k.hears("another number", api.OK, subscribed(1, 0, 5))
	k.wantState("another number", api.MirSnap, 0, 0, 0)
	k.m.Lost()
	k.tails("the number is the first one still", 1, 0)
	k.hears("the first one", api.OK, subscribed(1, 0, 4), delivered(1, 3, value(2, "a", "1")))
	for i := range int64(3) {
		k.m.Lost()
		what := fmt.Sprint("lost ", i)
		k.wantState(what, api.MirIdle, 3+i, 0, 1+int(i))
		k.tails(what, 1, 3+i)
		k.hears(what, api.OK, subscribed(1, 3+i, 4), delivered(1, 4+i, value(3+i, "b", "2")))
	}
	k.hears("passed", api.OK, refused(1, api.OpDeliver, api.CodeHorizonPassed))
	k.snaps("passed", 2)
	k.hears("a part", api.OK, snapped(2, 99, 9), delivered(2, 99, value(4, "c", "3")))
	k.m.Lost()
	k.wantState("a part", api.MirIdle, 6, 0, 5)
	k.tails("a part", 1, 6)
	k.hears("a part", api.OK, subscribed(1, 6, 4))
	k.hears("what was told ahead does not count", api.OK, refused(1, api.OpDeliver, api.CodeHorizonPassed))
	k.snaps("whole", 2)
	k.hears("whole", api.OK, snapped(2, 99, 9), final(2, 99, value(4, "a", "3")))
	k.m.Lost()
	k.wantState("whole", api.MirIdle, 99, 3, 2)
	k.tails("whole", 1, 99)
	k.hears("whole", api.OK, subscribed(1, 99, 9), delivered(1, 100))
	k.holds("whole", "a=3")
	k.wantNotes("whole", 9, 100)
}

// The number of a snapshot that was broken off is not known afterwards.
func TestLostNumberOfASnapshot(t *testing.T) {
	k := fresh(t)
	k.tails("ahead", 1, 0)
	k.hears("ahead", api.OK, refused(1, api.OpSubscribe, api.CodeHorizonPassed))
	k.snaps("ahead", 2)
	k.hears("answered", api.OK, snapped(2, 9, 6))
	k.m.Lost()
	k.commits("lost")
	k.wantNoPlace("lost")
	k.tails("lost: the copy has never had a record", 1, 0)
	k.hears("lost", api.OK, subscribed(1, 0, 7), delivered(1, 1))
	k.commits("lost")
	k.wantNotes("lost", 7, 1)
}
