package mirror_test

import (
	"fmt"
	"testing"

	"chronicle/api"
	"chronicle/mirror"
	"chronicle/topic"
)

// 22.7, R1: nil and zero mirrors.
func TestNoMirror(t *testing.T) {
	var none *mirror.Mirror
	for what, m := range map[string]*mirror.Mirror{"nil": none, "zero": {}} {
		want(t, what+": State", m.State(), api.MirState{})
		want(t, what+": Pairs", len(m.Pairs()), 0)
		want(t, what+": Topic", m.Topic(), (*topic.Topic)(nil))
		for _, now := range []int64{0, -1, lastTime} {
			for _, chunk := range [][]byte{nil, {}, {7}, frames(t, subscribed(1, 0, 4))} {
				want(t, what+": Hear", m.Hear(now, chunk), api.ErrNil)
			}
		}
		m.Lost()
		want(t, what+": Ask", len(m.Ask()), 0)
		want(t, what+": Commit", m.Commit(), api.ErrNil)
	}
}

// 22.7: State at each stand.
func TestStateEverywhere(t *testing.T) {
	for name, wanted := range map[string]api.MirState{
		"opened":                       {State: 0},
		"asked":                        {State: 2},
		"tails at 0":                   {State: 2},
		"tails at 2":                   {State: 2, Position: 2, Pending: 2},
		"tails at 5, committed":        {State: 2, Position: 5, Keys: 1},
		"asked from 2 on":              {State: 2, Position: 2, Pending: 1},
		"passed":                       {State: 1, Position: 2, Pending: 1},
		"has to begin with a snapshot": {State: 0, Keys: 2},
		"asked for a snapshot":         {State: 1, Position: 2, Keys: 2},
		"takes a snapshot":             {State: 1, Position: 2, Keys: 2},
		"takes one of nothing":         {State: 1, Position: 2, Keys: 2},
		"takes one, and has a part":    {State: 1, Position: 2, Keys: 2, Pending: 2},
		"has taken one":                {State: 2, Position: 9, Keys: 3, Pending: 2},
		"tails behind one":             {State: 2, Position: 9, Keys: 3, Pending: 2},
		"another topic":                {State: 1, Position: 2, Pending: 1},
		"idle":                         {State: 0},
		"idle in a snapshot":           {State: 0, Position: 2, Keys: 2},
		"broken":                       {State: 3},
		"lost":                         {State: 0},
	} {
		found := false
		for _, s := range stands() {
			if s.name == name {
				found = true
				k := s.at(t)
				untouched(t, name, k.d, func() { want(t, name+": State", k.m.State(), wanted) })
				want(t, name+": State once more", k.m.State(), wanted)
			}
		}
		want(t, name+": there is such a stand", found, true)
	}
	want(t, "stands", len(stands()), 19)
}

// 22.7: Pairs are what is committed, by rising keys, whatever the copy went through.
func TestPairs(t *testing.T) {
	k := limited(t, 256)
	k.tails("ahead", 1, 0)
	k.hears("ahead", api.OK, subscribed(1, 0, 4))
	k.wantPairs("nothing", "")
	list := []string{"b", "a", "\xff", "B", "a\x00", "ab", "z", "\x00"}
	for i, key := range list {
		k.hears("values", api.OK, delivered(1, int64(i+1), value(int64(i), key, fmt.Sprint(i))))
	}
	k.wantPairs("not committed", "")
	k.holds("committed", "\x00=7 B=3 a=1 a\x00=4 ab=5 b=0 z=6 \xff=2")
	k.hears("changed", api.OK, delivered(1, 99, tomb(50, "a"), value(51, "b", ""), value(52, "c", bulk(1)), tomb(53, "z"), value(54, "z", "9"), tomb(55, "never")))
	k.holds("changed", "\x00=7 B=3 a\x00=4 ab=5 b= c="+bulk(1)+" z=9 \xff=2")
	want(t, "Roll", k.m.Topic().Roll(), api.OK)
	merged(t, k.m.Topic(), 99)
	k.wantPairs("merged", "\x00=7 B=3 a\x00=4 ab=5 b= c="+bulk(1)+" z=9 \xff=2")
	k.wantState("merged", api.MirTail, 99, 8, 0)
	k = k.again()
	k.wantPairs("opened again", "\x00=7 B=3 a\x00=4 ab=5 b= c="+bulk(1)+" z=9 \xff=2")
}

// 22.7: whoever has the copy sees it grow, and may roll it: what is pending is committed by that, and counts, but is not noted.
func TestTopicIsTheCopy(t *testing.T) {
	k := copyOf(t, usual, value(0, "a", "1"))
	p := k.m.Topic()
	want(t, "the number", p.Id(), copyId)
	k.hears("one more", api.OK, delivered(1, 9, value(7, "b", "2")))
	want(t, "pending", p.State().Pending, 1)
	want(t, "Roll", p.Roll(), api.OK)
	k.wantState("rolled", api.MirTail, 9, 2, 0)
	k.wantPairs("rolled", "a=1 b=2")
	k.wantNotes("rolled", 4, 6)
	want(t, "the same topic", k.m.Topic(), p)
	k.hears("on", api.OK, delivered(1, 12, tomb(10, "a")))
	merged(t, p, 0)
	k.holds("on", "b=2")
	k.wantNotes("on", 4, 12)
}

// Without power nothing that has to be read is told; what the index knows is.
func TestTellWithoutPower(t *testing.T) {
	k := copyOf(t, usual, value(0, "a", "1"), value(0, "b", "2"))
	unpowered(t, k.d)
	want(t, "Pairs", len(k.m.Pairs()), 0)
	k.wantState("State", api.MirTail, 7, 2, 0)
	k.hears("nothing to apply", api.OK, delivered(1, 8))
	want(t, "Commit", k.m.Commit(), api.ErrDead)
	k.hears("something to apply", api.ErrDead, delivered(1, 9, value(8, "a", "1")))
	k.wantState("State", api.MirIdle, 8, 2, 0)
	k.m.Lost()
	k.tails("lost", 1, 8)
}
