package mirror_test

import (
	"fmt"
	"testing"

	"chronicle/api"
	"chronicle/mirror"
)

// 22.2, 22.3: requests have the Ids 1, 2, 3 .. on each connection, one at a time.
func TestRequestsAreNumbered(t *testing.T) {
	k := fresh(t)
	for range 3 {
		k.tails("first", 1, k.m.State().Position)
		for i := range uint32(20) {
			id := 2*i + 2
			k.hears("passed", api.OK, refused(id-1, api.OpSubscribe, api.CodeHorizonPassed))
			k.snaps("passed", id)
			k.hears("a snapshot", api.OK, snapped(id, int64(id), 4), final(id, int64(id), value(0, "a", fmt.Sprint(id))))
			k.tails("behind it", id+1, int64(id))
		}
		k.m.Lost()
	}
	k.holds("at the end", "a=40")
}

// 22.2: a position of 0, and a copy that has never had a record, has one, had one that was taken away, or one that waits for its commit.
func TestWhatIsAskedAtZero(t *testing.T) {
	for what, c := range map[string]struct {
		recs   []string
		merged bool
		snap   bool
	}{
		"never had one":                {nil, false, false},
		"has one":                      {[]string{"a", "1"}, false, true},
		"had one":                      {[]string{"a", "1", "a", "-"}, false, true},
		"had one, of which nothing is": {[]string{"a", "1", "a", "-"}, true, true},
	} {
		d := loaded(t, nil)
		writes(t, d, copyId, c.recs...)
		k := over(t, d, usual)
		if c.merged {
			want(t, what+": Roll", k.m.Topic().Roll(), api.OK)
			merged(t, k.m.Topic(), 5)
			k.wantCopy(what)
			k.m.Lost()
		}
		for range 2 {
			if c.snap {
				k.snaps(what, 1)
			} else {
				k.tails(what, 1, 0)
			}
			k.m.Lost()
		}
	}
	k := fresh(t)
	k.tails("one that waits", 1, 0)
	k.hears("one that waits", api.OK, refused(1, api.OpSubscribe, api.CodeBeyond))
	k.snaps("one that waits", 2)
	k.hears("one that waits", api.OK, snapped(2, 0, 4), delivered(2, 0, value(0, "a", "1")))
	k.m.Lost()
	k.wantState("one that waits", api.MirIdle, 0, 0, 1)
	k.snaps("one that waits", 1)
}

// 22.2: behind a snapshot of the moment 0 it tails at 0, though the copy has had records; behind Lost it takes a snapshot again.
func TestSnapshotOfMomentZero(t *testing.T) {
	d := loaded(t, nil)
	writes(t, d, copyId, "a", "1")
	k := over(t, d, usual)
	k.snaps("first", 1)
	k.hears("first", api.OK, snapped(1, 0, 4), final(1, 0))
	k.tails("behind it", 2, 0)
	k.hears("behind it", api.OK, subscribed(2, 0, 4))
	k.holds("behind it", "")
	k.wantNotes("behind it", 4, 0)
	k.m.Lost()
	k.snaps("lost", 1)
	k.hears("lost", api.OK, refused(1, api.OpSnapshot, api.CodeNoTopic))
	k = k.again()
	k.snaps("opened again", 1)
}

// 22.3: at each stand: what is asked, and that it is told just once.
func TestAskEverywhere(t *testing.T) {
	for _, s := range stands() {
		k := s.at(t)
		untouched(t, s.name, k.d, func() {
			for range 3 {
				k.ask(s.name)
			}
		})
		k.wantSame(s.name)
	}
	var none *mirror.Mirror
	want(t, "nil", len(none.Ask()), 0)
	want(t, "zero", len((&mirror.Mirror{}).Ask()), 0)
}

// 22.4: ahead of the first Ask whatever comes breaks it, deliveries too; and what is not whole yet counts when it is.
func TestHearAheadOfAsk(t *testing.T) {
	for _, r := range []api.Response{
		{}, subscribed(1, 0, 4), snapped(1, 0, 4), delivered(1, 2), delivered(0, 2), final(0, 0), refused(1, api.OpSubscribe, api.CodeNoTopic), refused(0, api.OpDeliver, api.CodeHorizonPassed), refused(1, api.OpDeliver, api.CodeNoTopic), {Op: api.OpPing, Code: api.CodeBadRequest},
	} {
		if r.Op == 0 {
			r.Op = api.OpPing
		}
		k := fresh(t)
		k.hears(fmt.Sprint(r), api.ErrSource, r)
		k.wantState(fmt.Sprint(r), api.MirBroken, 0, 0, 0)
		k.asksNothing("broken")
		k.m.Lost()
		k.tails("lost", 1, 0)
	}
	k := fresh(t)
	b := frames(t, subscribed(1, 0, 4))
	want(t, "a part", k.m.Hear(0, b[:10]), api.OK)
	k.wantState("a part", api.MirIdle, 0, 0, 0)
	k.tails("a part", 1, 0)
	want(t, "the rest", k.m.Hear(0, b[10:]), api.OK)
	k.hears("answered", api.OK, delivered(1, 5))
	k.wantState("answered", api.MirTail, 5, 0, 0)
}

// 22.4: deliveries of requests that it is done with are passed over, whatever they tell; of the last one too, as soon as another one is to be sent; others are not.
func TestDeliveriesThatArePassedOver(t *testing.T) {
	late := func(id uint32) []api.Response {
		return []api.Response{
			delivered(id, 9, value(1, "late", "x")), final(id, 3), delivered(id, -7, tomb(9, "b"), value(2, "b", "")),
			refused(id, api.OpDeliver, api.CodeHorizonPassed), refused(id, api.OpDeliver, api.CodeNoTopic), refused(id, api.OpDeliver, api.CodeBeyond),
		}
	}
	k := fresh(t)
	k.tails("first", 1, 0)
	k.hears("first", api.OK, subscribed(1, 0, 4), delivered(1, 1, value(0, "a", "1")), refused(1, api.OpDeliver, api.CodeHorizonPassed))
	k.hears("of the last one, not told", api.OK, late(1)...)
	k.wantState("of the last one, not told", api.MirSnap, 1, 0, 1)
	k.snaps("second", 2)
	k.hears("told", api.OK, late(1)...)
	k.hears("answered", api.OK, snapped(2, 9, 4))
	k.hears("answered", api.OK, late(1)...)
	k.hears("a part", api.OK, delivered(2, 9, value(3, "b", "2")))
	k.hears("a part", api.OK, late(1)...)
	k.hears("all", api.OK, final(2, 9, value(2, "c", "3")))
	k.hears("all", api.OK, append(late(2), late(1)...)...)
	k.wantState("all", api.MirTail, 9, 3, 1)
	k.tails("third", 3, 9)
	k.hears("third", api.OK, append(late(2), late(1)...)...)
	k.hears("third, answered", api.OK, subscribed(3, 9, 4))
	k.hears("third, answered", api.OK, append(late(2), late(1)...)...)
	k.holds("at the end", "b=2 c=3")
	for _, r := range []api.Response{delivered(0, 9), delivered(4, 9), final(4, 9), refused(4, api.OpDeliver, api.CodeNoTopic), subscribed(1, 0, 4), snapped(2, 9, 4), refused(1, api.OpSubscribe, api.CodeNoTopic), refused(2, api.OpSnapshot, api.CodeHorizonPassed)} {
		k.hears(fmt.Sprint(r), api.ErrSource, r)
		k.m.Lost()
		k.tails("lost", 1, 9)
		k.hears("lost", api.OK, refused(1, api.OpSubscribe, api.CodeHorizonPassed))
		k.snaps("lost", 2)
		k.hears("lost", api.OK, snapped(2, 9, 4), final(2, 9))
		k.tails("lost", 3, 9)
	}
}
