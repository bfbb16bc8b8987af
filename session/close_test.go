package session_test

import (
	"math"
	"testing"

	"chronicle/api"
	"chronicle/cursor"
	"chronicle/session"
)

// wantRefusing fails unless every call answers that nothing can be done, and does nothing.
func wantRefusing(t *testing.T, what string, s *session.Session, errno api.Errno) {
	t.Helper()
	p := holding(t, two()...)
	state, id := s.State(), s.Id()
	for _, chunk := range [][]byte{nil, stats(t, 0, 3), frameOf(t, "\x00"), {0}, head(5000)} {
		want(t, what+": Feed", s.Feed(chunk), 0)
	}
	r, ok := s.Next()
	want(t, what+": Next", ok, false)
	want(t, what+": Next", r, api.Request{})
	want(t, what+": Send", s.Send(full(1)), errno)
	want(t, what+": Owe", s.Owe(api.Owed{Topic: 3, Offset: 5, R: full(1)}), errno)
	for _, list := range wrongResponses() {
		want(t, what+": Send of a wrong one", s.Send(list[0]), errno)
		want(t, what+": Owe of a wrong one", s.Owe(api.Owed{R: list[0]}), errno)
	}
	want(t, what+": Settle", s.Settle(3, math.MaxInt64), 0)
	want(t, what+": Refuse", s.Refuse(3, 2), 0)
	want(t, what+": Refuse with no code", s.Refuse(3, 0), 0)
	c, q := tail(t, p, 0), snapshot(t, p)
	want(t, what+": Subscribe", s.Subscribe(1, 3, c), errno)
	want(t, what+": Hold", s.Hold(2, 3, q), errno)
	want(t, what+": the cursor is as it was", c.State(), api.CurOpen)
	want(t, what+": the snapshot is as it was", isClosed(q), false)
	want(t, what+": Unsubscribe", s.Unsubscribe(1), errno)
	want(t, what+": Unsubscribe", s.Unsubscribe(77), errno)
	want(t, what+": Ready", s.Ready(), false)
	want(t, what+": Deliver", s.Deliver(), 0)
	want(t, what+": Gone", s.Gone(3), 0)
	for _, n := range []int{-1, 0, 1, 9999} {
		want(t, what+": Out", len(s.Out(n)), 0)
	}
	want(t, what+": State", s.State(), state)
	want(t, what+": Id", s.Id(), id)
}

// busy is a session with all that one may have.
func busy(t *testing.T) (*session.Session, []*cursor.Cursor, []*cursor.Snap) {
	t.Helper()
	s := session.New(7)
	var cursors []*cursor.Cursor
	var snaps []*cursor.Snap
	p := holding(t, bulky(9)...)
	s.Feed(join(stats(t, 0, 66), ask(t, stat(1))[:9]))
	s.Send(full(1))
	for i := range maxOwed {
		owe(t, s, 3+i%2, int64(i), full(2))
	}
	for i := range uint32(maxSubs) {
		cursors = append(cursors, tail(t, p, 0))
		subscribe(t, s, i, cursors[i])
	}
	for i := range uint32(maxSnaps) {
		snaps = append(snaps, snapshot(t, p))
		hold(t, s, 10+i, snaps[i])
	}
	for range 5 {
		s.Deliver()
	}
	return s, cursors, snaps
}

// 18.12
func TestClose(t *testing.T) {
	for _, broken := range []bool{false, true} {
		s, cursors, snaps := busy(t)
		if broken {
			s.Feed(make([]byte, 999))
			s.Feed([]byte{0})
		}
		state := s.State()
		want(t, "broken", state.Broken, broken)
		want(t, "closed", state.Closed, false)
		want(t, "all that may be", state, api.SessState{Inbox: maxInbox, Outbox: state.Outbox, Owed: maxOwed, Subs: maxSubs, Snaps: maxSnaps, Broken: broken})
		for range 3 {
			s.Close()
			want(t, "State", s.State(), api.SessState{Broken: broken, Closed: true})
			want(t, "Id", s.Id(), 7)
			for _, c := range cursors {
				want(t, "a cursor", c.State(), api.CurClosed)
			}
			for _, q := range snaps {
				want(t, "a snapshot is closed", isClosed(q), true)
			}
			wantRefusing(t, "closed", s, api.ErrClosed)
		}
	}
	s := session.New(3)
	s.Close()
	want(t, "State of one that was empty", s.State(), api.SessState{Closed: true})
	wantRefusing(t, "an empty one", s, api.ErrClosed)
}

func TestNilSession(t *testing.T) {
	for what, s := range map[string]*session.Session{"nil": nil, "nobody made it": {}} {
		for range 2 {
			want(t, what+": State", s.State(), api.SessState{})
			want(t, what+": Id", s.Id(), 0)
			wantRefusing(t, what, s, api.ErrNil)
			s.Close()
		}
	}
}
