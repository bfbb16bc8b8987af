package cursor_test

import (
	"fmt"
	"testing"

	"chronicle/api"
	"chronicle/cursor"
	"chronicle/merge"
	"chronicle/topic"
)

// 12.2, 12.11: what a risen mark does.

// Example 4.
func TestPassed(t *testing.T) {
	_, p := holding(t, four()...)
	zero, one, three := tailed(t, p, 0), tailed(t, p, 0), tailed(t, p, 3)
	wantPiece(t, "a=1", one, 1, 9999, 1, api.CurOpen, four()[0])
	compact(t, p, 20, 3)
	want(t, "it is not told yet", one.State(), api.CurOpen)
	want(t, "it does not wait", one.Waits(), false)
	for range 2 {
		wantPiece(t, "passed", one, 9, 9999, 1, api.CurPassed)
		want(t, "it does not wait", one.Waits(), false)
	}
	wantPiece(t, "at 0", zero, 9, 9999, 4, api.CurOpen, four()[1], four()[3])
	wantPiece(t, "at 3", three, 9, 9999, 4, api.CurOpen, four()[3])
	add(t, p, at(20, fifth()))
	for _, c := range []*cursor.Cursor{zero, three} {
		want(t, "it does not wait", c.Waits(), false)
		wantPiece(t, "goes on", c, 9, 9999, 5, api.CurOpen, at(20, fifth()))
	}
	wantPiece(t, "passed for ever", one, 9, 9999, 1, api.CurPassed)
}

// Each place, of replays and of tails.
func TestWhoIsPassed(t *testing.T) {
	for what, f := range beginnings() {
		for from := range int64(5) {
			_, p := holding(t, append(four(), fifth())...)
			c := begun(t, f, p, from)
			compact(t, p, 20, 3)
			piece, e := c.Next(1, 1)
			want(t, what+": Next", e, api.OK)
			passed := from == 1 || from == 2
			want(t, fmt.Sprintf("%s at %d is passed", what, from), piece.State == api.CurPassed, passed)
			want(t, fmt.Sprintf("%s at %d: records", what, from), len(piece.Recs) == 0, passed)
		}
	}
}

// A replay that is at its end is not passed any more.
func TestNobodyIsPassedAtTheEnd(t *testing.T) {
	_, p := holding(t, four()[:2]...)
	c := replayed(t, p, 1)
	wantPiece(t, "to its end", c, 9, 999, 2, api.CurEnd, four()[1])
	add(t, p, four()[2:]...)
	compact(t, p, 20, 3)
	wantPiece(t, "at its end", c, 9, 999, 2, api.CurEnd)
}

// What is superseded is dropped at any age, tombstones too: it passes nobody.
func TestNobodyIsPassedWithoutAnOldTombstone(t *testing.T) {
	recs := []api.Record{put(0, "a", "1"), gone(1, "a"), put(2, "a", "2"), put(3, "b", "3"), at(10, gone(4, "b"))}
	for from := range int64(6) {
		_, p := holding(t, recs...)
		c := tailed(t, p, from)
		compact(t, p, 14, 0) // the last tombstone is young: 2 and 4 are left
		switch {
		case from < 3:
			wantPiece(t, "2 and 4", c, 9, 999, 5, api.CurOpen, recs[2], recs[4])
		case from < 5:
			wantPiece(t, "4", c, 9, 999, 5, api.CurOpen, recs[4])
		default:
			wantPiece(t, "nothing", c, 9, 999, 5, api.CurOpen)
		}
	}
}

// twice is a log of which two merges drop a tombstone each: 2 at the time 20, 5 at the time 30.
func twice() []api.Record {
	return []api.Record{
		put(0, "a", "1"), put(1, "b", "2"), at(10, gone(2, "a")),
		at(20, put(3, "c", "3")), at(20, put(4, "d", "4")), at(20, gone(5, "d")),
		at(20, put(6, "e", "5")),
	}
}

// onceMerged is a topic with that log, behind the first merge: the mark is 3, and 1, 3, 5, 6 are left.
func onceMerged(t *testing.T) *topic.Topic {
	t.Helper()
	_, p := holding(t, twice()...)
	compact(t, p, 20, 3)
	return p
}

// A mark that a reader has seen at its beginning is no matter to it; one that rises later is.
func TestMarksThatAreSeen(t *testing.T) {
	recs := twice()
	for _, steps := range []int{0, 1, 2, 3, 4} {
		p := onceMerged(t)
		c := tailed(t, p, 0)
		places := []int64{0, 2, 4, 6, 7}
		left := []api.Record{recs[1], recs[3], recs[5], recs[6]}
		for i, r := range left[:steps] {
			wantPiece(t, "below the mark", c, 1, 1, places[i+1], api.CurOpen, r)
		}
		compact(t, p, 30, 6)
		switch steps {
		case 0:
			wantPiece(t, "at 0", c, 9, 999, 7, api.CurOpen, recs[1], recs[3], recs[6])
		case 3:
			wantPiece(t, "at the mark", c, 9, 999, 7, api.CurOpen, recs[6])
		case 4:
			wantPiece(t, "at the end", c, 9, 999, 7, api.CurOpen)
		default:
			wantPiece(t, "passed", c, 9, 999, places[steps], api.CurPassed)
		}
	}
}

// One that stands at 0 sees whatever mark there is when it goes on.
func TestMarksThatAreSeenAtZero(t *testing.T) {
	recs := twice()
	_, p := holding(t, recs...)
	one, two, three := tailed(t, p, 0), tailed(t, p, 0), replayed(t, p, 0)
	compact(t, p, 20, 3)
	wantPiece(t, "behind the first merge", one, 1, 1, 2, api.CurOpen, recs[1])
	wantPiece(t, "below the mark that it has seen", one, 1, 1, 4, api.CurOpen, recs[3])
	compact(t, p, 30, 6)
	wantPiece(t, "passed by the second merge", one, 1, 1, 4, api.CurPassed)
	wantPiece(t, "behind both", two, 1, 1, 2, api.CurOpen, recs[1])
	wantPiece(t, "behind both", two, 1, 1, 4, api.CurOpen, recs[3])
	wantPiece(t, "behind both", two, 1, 1, 7, api.CurOpen, recs[6])
	wantPiece(t, "a replay", three, 2, 999, 4, api.CurOpen, recs[1], recs[3])
	wantPiece(t, "a replay", three, 2, 999, 7, api.CurEnd, recs[6])
}

// One that stands at the mark, or behind it, sees it too: but that is no matter, for it is not below it any more.
func TestMarksThatAreSeenBehindThem(t *testing.T) {
	recs := twice()
	for at := int64(3); at <= 7; at++ {
		_, p := holding(t, recs...)
		c := tailed(t, p, at)
		compact(t, p, 20, 3)
		if at == 3 {
			wantPiece(t, "at the mark", c, 1, 1, 4, api.CurOpen, recs[3])
		}
		compact(t, p, 30, 6)
		switch {
		case at == 3:
			wantPiece(t, "passed at 4", c, 1, 1, 4, api.CurPassed)
		case at < 6:
			wantPiece(t, "passed", c, 1, 1, at, api.CurPassed)
		case at == 6:
			wantPiece(t, "at the second mark", c, 1, 1, 7, api.CurOpen, recs[6])
		default:
			wantPiece(t, "at the end", c, 1, 1, 7, api.CurOpen)
		}
	}
}

// The mark rises with the moment of a merge, not ahead of it; a merge that is stopped passes nobody.
func TestMergesUnderWay(t *testing.T) {
	_, p := holding(t, four()...)
	want(t, "Roll", p.Roll(), api.OK)
	for range 2 {
		m, e := merge.Start(p)
		want(t, "Start", e, api.OK)
		for moment := false; !moment; {
			c := tailed(t, p, 1)
			wantPiece(t, "ahead of the moment", c, 9, 999, 4, api.CurOpen, four()[1:]...)
			c = tailed(t, p, 1)
			step, e := m.Step(20)
			want(t, "Step", e, api.OK)
			if step.Kind == api.MgDir {
				break
			}
			wantPiece(t, "ahead of the moment", c, 9, 999, 4, api.CurOpen, four()[1:]...)
		}
		want(t, "Stop", m.Stop(), api.OK)
	}
	c := tailed(t, p, 1)
	compact(t, p, 20, 3)
	wantPiece(t, "behind it", c, 9, 999, 1, api.CurPassed)
}
