package session_test

import (
	"fmt"
	"math"
	"testing"

	"chronicle/session"
)

// hall is a session with readers of topics that are long, and short.
type hall struct {
	t *testing.T
	s *session.Session
}

// newHall is a session with readers of these ids, which have something to tell for long.
func newHall(t *testing.T, ids ...uint32) hall {
	h := hall{t, session.New(1)}
	h.long(ids...)
	return h
}

// long begins replays, and snapshots for ids from 100 on, of 30 pieces and more.
func (h hall) long(ids ...uint32) {
	h.t.Helper()
	p := holding(h.t, bulky(60)...)
	for _, id := range ids {
		if id < 100 {
			subscribe(h.t, h.s, id, tail(h.t, p, 0))
		} else {
			hold(h.t, h.s, id, snapshot(h.t, p))
		}
	}
}

// short begins one of one piece.
func (h hall) short(id uint32) {
	h.t.Helper()
	p := holding(h.t, two()...)
	if id < 100 {
		subscribe(h.t, h.s, id, replay(h.t, p, 0))
	} else {
		hold(h.t, h.s, id, snapshot(h.t, p))
	}
}

// idle begins a tail that waits, for ever.
func (h hall) idle(id uint32) {
	h.t.Helper()
	subscribe(h.t, h.s, id, tail(h.t, holding(h.t, two()...), 2))
}

func (h hall) leave(id uint32) {
	h.t.Helper()
	want(h.t, "Unsubscribe", h.s.Unsubscribe(id), 0)
}

// turns is whom so many deliveries are for.
func (h hall) turns(n int) []uint32 {
	h.t.Helper()
	var ids []uint32
	for range n {
		h.s.Deliver()
		list, rest := read(h.s.Out(math.MaxInt))
		if len(list) > 1 || len(rest) > 0 {
			h.t.Fatalf("a delivery sends %v", list)
		}
		for _, r := range list {
			ids = append(ids, r.Id)
		}
	}
	return ids
}

// want fails unless the next deliveries are for these.
func (h hall) want(what string, ids ...uint32) {
	h.t.Helper()
	wantList(h.t, what, h.turns(len(ids)), ids)
}

// 18.9: whose turn it is.
func TestTurns(t *testing.T) {
	for _, n := range []int{1, 2, 3, 8} {
		var ids []uint32
		for i := range n {
			ids = append(ids, uint32(90-7*i)) // not by their ids
		}
		h := newHall(t, ids...)
		for range 3 {
			h.want(fmt.Sprint(n, " readers"), ids...)
		}
	}
	h := newHall(t, 9, 105, 3, 101, 104, 1, 100, 7, 8, 2, 6, 5)
	for range 2 {
		h.want("cursors and snapshots", 9, 105, 3, 101, 104, 1, 100, 7, 8, 2, 6, 5)
	}
}

func TestTurnsBehindOneThatEnded(t *testing.T) {
	for _, short := range []uint32{50, 150} {
		h := newHall(t)
		h.short(short)
		h.long(1, 2)
		h.want("the first ended", short, 1, 2, 1, 2)

		h = newHall(t, 1)
		h.short(short)
		h.long(2, 3)
		h.want("the second ended", 1, short, 2, 3, 1, 2, 3)

		h = newHall(t, 1, 2)
		h.short(short)
		h.want("the last ended", 1, 2, short, 1, 2, 1)

		h = newHall(t, 1)
		h.short(short)
		h.short(short + 1)
		h.short(short + 2)
		h.long(2)
		h.want("three ended", 1, short, short+1, short+2, 2, 1, 2)

		h = newHall(t)
		h.short(short)
		h.want("the only one ended", short)
		h.long(1, 2)
		h.want("others begin", 1, 2, 1)
	}
}

func TestTurnsBehindOneThatWasTakenAway(t *testing.T) {
	h := newHall(t, 1, 2, 3, 4)
	h.want("the first", 1)
	h.leave(2)
	h.want("the one that comes next", 3, 4, 1, 3)

	h = newHall(t, 1, 2, 3, 4)
	h.want("the first ones", 1, 2)
	h.leave(2)
	h.want("the one that was delivered last", 3, 4, 1, 3)

	h = newHall(t, 1, 2, 3, 4)
	h.want("the first ones", 1, 2, 3)
	h.leave(1)
	h.want("one ahead of it", 4, 2, 3, 4)

	h = newHall(t, 1, 2, 3, 4)
	h.want("the first ones", 1, 2)
	h.leave(4)
	h.want("the last one", 3, 1, 2, 3)

	h = newHall(t, 1, 2, 3)
	h.want("all of them", 1, 2, 3)
	h.leave(3)
	h.want("the last one, delivered last", 1, 2, 1)

	h = newHall(t, 1, 2, 3)
	h.want("all of them", 1, 2, 3)
	h.leave(1)
	h.want("the first one, which comes next", 2, 3, 2)

	h = newHall(t, 1, 2, 3)
	h.leave(1)
	h.want("ahead of all deliveries", 2, 3, 2)

	h = newHall(t, 1, 2, 3, 104)
	h.want("the first ones", 1, 2)
	h.leave(1)
	h.leave(2)
	h.leave(3)
	h.want("all but one", 104, 104)
}

func TestTurnsOfOneThatBeganMeanwhile(t *testing.T) {
	h := newHall(t, 1, 2)
	h.want("both", 1, 2)
	h.long(3)
	h.want("it began behind the one that was delivered last", 3, 1, 2, 3)

	h = newHall(t, 1, 2)
	h.want("the first", 1)
	h.long(103)
	h.want("another one comes ahead", 2, 103, 1, 2)

	h = newHall(t, 1, 2)
	h.want("both", 1, 2)
	h.leave(2)
	h.long(2)
	h.want("an id that was there already", 2, 1, 2)

	h = newHall(t, 1, 2)
	h.want("both", 1, 2)
	h.leave(1)
	h.long(1)
	h.want("the first one's id", 1, 2, 1)

	h = newHall(t, 1, 2)
	h.want("the first", 1)
	h.leave(1)
	h.leave(2)
	h.long(4, 3)
	h.want("all are others", 4, 3, 4)
}

func TestTurnsOfThoseThatWait(t *testing.T) {
	h := newHall(t)
	h.idle(1)
	h.long(2)
	h.idle(3)
	h.idle(4)
	h.long(5)
	h.idle(6)
	h.want("they are passed by", 2, 5, 2, 5)
	p := holding(t, two()...)
	subscribe(t, h.s, 7, tail(t, p, 2))
	h.want("one more that waits", 2, 5, 2)
	add(t, p, value(2, 3, "c", ""))
	h.want("it has something to tell", 5, 7, 2, 5, 2)
	add(t, p, value(3, 3, "c", ""))
	h.leave(2)
	h.want("behind the one that was delivered last", 5, 7, 5, 5)
}

// Those that are gone with their topic are taken away like others.
func TestTurnsBehindGone(t *testing.T) {
	for delivered := range 7 {
		h := newHall(t)
		p := holding(t, bulky(60)...)
		for id := range uint32(6) {
			want(t, "Subscribe", h.s.Subscribe(id, 3+int(id)%2, tail(t, p, 0)), 0)
		}
		h.turns(delivered)
		want(t, "Gone", h.s.Gone(3), 3) // 0, 2, 4
		h.s.Out(math.MaxInt)
		switch delivered {
		case 0, 1, 6: // behind none, or 0, or 5
			h.want(fmt.Sprint("delivered ", delivered), 1, 3, 5, 1)
		case 2, 3: // behind 1, or 2
			h.want(fmt.Sprint("delivered ", delivered), 3, 5, 1, 3)
		case 4, 5:
			h.want(fmt.Sprint("delivered ", delivered), 5, 1, 3, 5)
		}
	}
}

// A delivery that does nothing is no turn.
func TestTurnsWithTheOutboxFull(t *testing.T) {
	h := newHall(t, 1, 2, 3)
	h.want("the first", 1)
	fill(t, h.s, maxOutbox)
	for range 5 {
		want(t, "Deliver", h.s.Deliver(), 0)
	}
	h.s.Out(math.MaxInt)
	h.want("the next", 2, 3, 1)
}
