package cursor_test

import (
	"fmt"
	"math"
	"testing"

	"chronicle/api"
	"chronicle/cursor"
	"chronicle/topic"
)

// 12.1

func TestBeginnings(t *testing.T) {
	_, p := holding(t, four()...)
	lay(t, p, fifth()) // is pending: it counts for nobody
	for from := range int64(5) {
		c := replayed(t, p, from)
		state := api.CurOpen
		if from == 4 {
			state = api.CurEnd
		}
		want(t, fmt.Sprintf("Replay from %d: the state", from), c.State(), state)
		want(t, fmt.Sprintf("Replay from %d: it waits", from), c.Waits(), false)
		c = tailed(t, p, from)
		want(t, fmt.Sprintf("Tail from %d: the state", from), c.State(), api.CurOpen)
		want(t, fmt.Sprintf("Tail from %d: it waits", from), c.Waits(), from == 4)
	}
	for what, f := range beginnings() {
		for _, from := range []int64{-1, 5, 6, math.MinInt64, math.MaxInt64, 1 << 40} {
			wantRefused(t, what, f, p, from, api.ErrPos)
		}
	}
}

func TestBeginningsInAnEmptyTopic(t *testing.T) {
	_, p := made(t)
	c := replayed(t, p, 0)
	want(t, "Replay: the state", c.State(), api.CurEnd)
	wantPiece(t, "Replay", c, 9, 9, 0, api.CurEnd)
	c = tailed(t, p, 0)
	want(t, "Tail: it waits", c.Waits(), true)
	wantPiece(t, "Tail", c, 9, 9, 0, api.CurOpen)
	for what, f := range beginnings() {
		wantRefused(t, what, f, p, 1, api.ErrPos)
		wantRefused(t, what, f, p, -1, api.ErrPos)
	}
}

// Neither nil nor a topic that was not made, nor one that is dropped, whatever from is.
func TestBeginningsWithoutATopic(t *testing.T) {
	_, p := holding(t, four()...)
	want(t, "Drop", p.Drop(), api.OK)
	for what, f := range beginnings() {
		for _, from := range []int64{-1, 0, 1, 4, 5, math.MinInt64, math.MaxInt64} {
			wantRefused(t, what+" of nil", f, nil, from, api.ErrNil)
			wantRefused(t, what+" of a zero value", f, &topic.Topic{}, from, api.ErrNil)
			wantRefused(t, what+" of a dropped one", f, p, from, api.ErrGone)
		}
	}
}

// Where nothing has to be read, no power is needed.
func TestBeginningsWithoutPower(t *testing.T) {
	d, p := holding(t, four()...)
	unpower(t, d)
	for what, f := range beginnings() {
		for from := range int64(4) {
			wantRefused(t, what, f, p, from, api.ErrDead)
		}
		wantRefused(t, what, f, p, -1, api.ErrPos)
		wantRefused(t, what, f, p, 5, api.ErrPos)
		begun(t, f, p, 4)
	}
	want(t, "a replay at the end", replayed(t, p, 4).State(), api.CurEnd)
	want(t, "a tail at the end waits", tailed(t, p, 4).Waits(), true)
}

func TestBeginningsBelowTheMark(t *testing.T) {
	d, p := holding(t, four()...)
	add(t, p, fifth(), at(11, gone(5, "never")))
	for from := range int64(7) {
		tailed(t, p, from)
	}
	compact(t, p, 15, 3) // the tombstone 2 is old, the tombstone 5 is not
	for what, f := range beginnings() {
		begun(t, f, p, 0)
		wantRefused(t, what, f, p, 1, api.ErrHorizon)
		wantRefused(t, what, f, p, 2, api.ErrHorizon)
		for from := int64(3); from <= 6; from++ {
			begun(t, f, p, from)
		}
		wantRefused(t, what, f, p, -1, api.ErrPos)
		wantRefused(t, what, f, p, 7, api.ErrPos)
	}
	unpower(t, d)
	for what, f := range beginnings() {
		wantRefused(t, what+" without power", f, p, 1, api.ErrDead)
		wantRefused(t, what+" without power", f, p, 7, api.ErrPos)
	}
}

// Nothing is left, and the mark is the committed end.
func TestBeginningsWhereNothingIsLeft(t *testing.T) {
	for _, power := range []bool{true, false} {
		d, p := holding(t, put(0, "a", "1"), put(1, "a", "2"), gone(2, "a"))
		compact(t, p, 9, 3)
		if !power {
			unpower(t, d)
		}
		for what, f := range beginnings() {
			wantRefused(t, what, f, p, 1, api.ErrHorizon)
			wantRefused(t, what, f, p, 2, api.ErrHorizon)
			wantRefused(t, what, f, p, 4, api.ErrPos)
			begun(t, f, p, 3)
		}
		c := replayed(t, p, 0)
		want(t, "a replay from 0", c.State(), api.CurOpen)
		wantPiece(t, "a replay from 0", c, 1, 1, 3, api.CurEnd)
		c = tailed(t, p, 0)
		want(t, "a tail from 0 waits", c.Waits(), false)
		wantPiece(t, "a tail from 0", c, 1, 1, 3, api.CurOpen)
		want(t, "a tail from 0 waits then", c.Waits(), true)
	}
}

// A beginning changes nothing in the topic, nor on its disk.
func TestBeginningsChangeNothing(t *testing.T) {
	d, p := holding(t, four()...)
	lay(t, p, fifth())
	state, ops := p.State(), d.Ops()
	for _, f := range beginnings() {
		for from := int64(-1); from < 7; from++ {
			f(p, from)
		}
	}
	cursor.Snapshot(p)
	cursor.Prefix(p, "a")
	want(t, "the topic", p.State(), state)
	want(t, "operations", d.Ops(), ops)
}
