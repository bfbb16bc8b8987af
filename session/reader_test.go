package session_test

import (
	"fmt"
	"testing"

	"chronicle/api"
	"chronicle/cursor"
	"chronicle/session"
)

// wantReaders fails unless a session has so many cursors and snapshots.
func wantReaders(t *testing.T, what string, s *session.Session, subs, snaps int) {
	t.Helper()
	state := s.State()
	want(t, what+": cursors", state.Subs, subs)
	want(t, what+": snapshots", state.Snaps, snaps)
}

// isClosed tells whether a snapshot is closed; one that is not has not been asked for anything.
func isClosed(p *cursor.Snap) bool {
	_, _, e := p.Next(0, 0)
	return e == api.ErrClosed
}

// 18.7
func TestSubscribe(t *testing.T) {
	p := holding(t, two()...)
	s := session.New(1)
	for i := range maxSubs {
		wantReaders(t, "ahead", s, i, 0)
		if i%2 == 0 {
			subscribe(t, s, uint32(i), tail(t, p, 0))
		} else {
			subscribe(t, s, uint32(i), replay(t, p, 0))
		}
	}
	wantReaders(t, "all that may be", s, maxSubs, 0)
	ninth := tail(t, p, 0)
	want(t, "a ninth", s.Subscribe(100, 3, ninth), api.ErrSubs)
	want(t, "an id that there is", s.Subscribe(7, 3, ninth), api.ErrSubs)
	want(t, "the ninth is as it was", ninth.State(), api.CurOpen)
	want(t, "and stands where it stood", ninth.Position(), 0)
	want(t, "nothing is sent", s.State(), api.SessState{Subs: maxSubs})
	want(t, "Unsubscribe", s.Unsubscribe(3), api.OK)
	subscribe(t, s, 3, ninth)
	want(t, "a ninth", s.Subscribe(100, 3, tail(t, p, 0)), api.ErrSubs)
	wantReaders(t, "all that may be", s, maxSubs, 0)
	for i := range maxSnaps {
		hold(t, s, uint32(200+i), snapshot(t, p))
	}
	wantReaders(t, "snapshots have room of their own", s, maxSubs, maxSnaps)
}

func TestHold(t *testing.T) {
	p := holding(t, two()...)
	s := session.New(1)
	for i := range maxSnaps {
		wantReaders(t, "ahead", s, 0, i)
		hold(t, s, uint32(i), snapshot(t, p))
	}
	fifth := snapshot(t, p)
	want(t, "a fifth", s.Hold(100, 3, fifth), api.ErrSnaps)
	want(t, "an id that there is", s.Hold(3, 3, fifth), api.ErrSnaps)
	want(t, "the fifth is as it was", isClosed(fifth), false)
	want(t, "nothing is sent", s.State(), api.SessState{Snaps: maxSnaps})
	want(t, "Unsubscribe", s.Unsubscribe(0), api.OK)
	hold(t, s, 0, fifth)
	want(t, "a fifth", s.Hold(100, 3, snapshot(t, p)), api.ErrSnaps)
	for i := range maxSubs {
		subscribe(t, s, uint32(200+i), tail(t, p, 0))
	}
	wantReaders(t, "cursors have room of their own", s, maxSubs, maxSnaps)
}

// No two readers have one id, of whatever kind they are.
func TestOneId(t *testing.T) {
	p := holding(t, two()...)
	for _, id := range []uint32{0, 1, 1 << 31, lastId} {
		s := session.New(1)
		subscribe(t, s, id, tail(t, p, 0))
		want(t, "a cursor's, for a cursor", s.Subscribe(id, 4, tail(t, p, 0)), api.ErrSubs)
		want(t, "a cursor's, for a snapshot", s.Hold(id, 4, snapshot(t, p)), api.ErrSnaps)
		wantReaders(t, "one", s, 1, 0)
		want(t, "Unsubscribe", s.Unsubscribe(id), api.OK)
		hold(t, s, id, snapshot(t, p))
		want(t, "a snapshot's, for a cursor", s.Subscribe(id, 4, tail(t, p, 0)), api.ErrSubs)
		want(t, "a snapshot's, for a snapshot", s.Hold(id, 4, snapshot(t, p)), api.ErrSnaps)
		wantReaders(t, "one", s, 0, 1)
		want(t, "Deliver", s.Deliver(), 2)
		subscribe(t, s, id, tail(t, p, 0))
		wantReaders(t, "behind its end", s, 1, 0)
		want(t, "Gone", s.Gone(3), 1)
		hold(t, s, id, snapshot(t, p))
		wantReaders(t, "behind Gone", s, 0, 1)
	}
}

func TestNilReaders(t *testing.T) {
	var none *session.Session
	p := holding(t, two()...)
	s := session.New(1)
	wantNil := func(what string, s *session.Session) {
		t.Helper()
		want(t, what+": a nil cursor", s.Subscribe(5, 3, nil), api.ErrNil)
		want(t, what+": a nil snapshot", s.Hold(5, 3, nil), api.ErrNil)
	}
	wantNil("an empty one", s)
	for i := range maxSubs {
		subscribe(t, s, uint32(i), tail(t, p, 0))
	}
	for i := range maxSnaps {
		hold(t, s, uint32(10+i), snapshot(t, p))
	}
	wantNil("a full one", s)
	wantReaders(t, "nothing has changed", s, maxSubs, maxSnaps)
	s.Close()
	wantNil("a closed one", s)
	wantNil("a nil one", none)
}

func TestUnsubscribe(t *testing.T) {
	p := holding(t, two()...)
	s := session.New(1)
	c, q := tail(t, p, 0), snapshot(t, p)
	subscribe(t, s, 1, tail(t, p, 0))
	subscribe(t, s, 5, c)
	hold(t, s, 9, q)
	hold(t, s, 10, snapshot(t, p))
	for _, id := range []uint32{0, 2, 4, 6, 8, 11, 261, lastId} {
		want(t, fmt.Sprint("no reader has ", id), s.Unsubscribe(id), api.ErrNoSub)
	}
	wantReaders(t, "nothing has changed", s, 2, 2)
	want(t, "a cursor", s.Unsubscribe(5), api.OK)
	want(t, "it is closed", c.State(), api.CurClosed)
	wantReaders(t, "without it", s, 1, 2)
	want(t, "once more", s.Unsubscribe(5), api.ErrNoSub)
	want(t, "a snapshot", s.Unsubscribe(9), api.OK)
	want(t, "it is closed", isClosed(q), true)
	wantReaders(t, "without it", s, 1, 1)
	want(t, "once more", s.Unsubscribe(9), api.ErrNoSub)
	want(t, "nothing is sent", s.State(), api.SessState{Subs: 1, Snaps: 1})
	want(t, "Deliver", s.Deliver(), 2)
	want(t, "Deliver", s.Deliver(), 2)
	wantOut(t, "the others", s, delivery(1, 2, true, two()...), delivery(10, 2, false, two()...))
}

// 18.8
func TestReady(t *testing.T) {
	p := holding(t, two()...)
	s := session.New(1)
	want(t, "no reader", s.Ready(), false)
	subscribe(t, s, 1, tail(t, p, 2))
	want(t, "a tail that waits", s.Ready(), false)
	subscribe(t, s, 2, tail(t, p, 2))
	want(t, "two that wait", s.Ready(), false)
	add(t, p, value(2, 3, "c", "3"))
	want(t, "something came", s.Ready(), true)
	want(t, "Unsubscribe", s.Unsubscribe(1), api.OK)
	want(t, "Deliver", s.Deliver(), 1)
	want(t, "it waits again", s.Ready(), false)
	for what, c := range map[string]*cursor.Cursor{
		"a tail that has something to tell": tail(t, p, 1),
		"a replay":                          replay(t, p, 0),
		"a replay at its end":               replay(t, p, 3),
	} {
		subscribe(t, s, 3, c)
		want(t, what, s.Ready(), true)
		want(t, "Unsubscribe", s.Unsubscribe(3), api.OK)
		want(t, what+", without it", s.Ready(), false)
	}
	// What is appended and not committed is nothing to tell.
	p.Append(9, api.Write{Key: "d"})
	want(t, "a tail that waits for a commit", s.Ready(), false)
}

// Example 5.
func TestReadyForASnapshot(t *testing.T) {
	p := holding(t, two()...)
	s := session.New(1)
	subscribe(t, s, 1, tail(t, p, 2))
	hold(t, s, 2, snapshot(t, p))
	want(t, "a snapshot", s.Ready(), true)
	want(t, "Deliver", s.Deliver(), 2)
	want(t, "behind its last piece", s.Ready(), false)
	_, empty := made(t)
	hold(t, s, 3, snapshot(t, empty))
	want(t, "a snapshot of no pairs", s.Ready(), true)
	want(t, "Deliver", s.Deliver(), 0)
	want(t, "behind its last piece", s.Ready(), false)
}

func TestReadyAndTheOutbox(t *testing.T) {
	p := holding(t, bulky(9)...)
	for what, begin := range map[string]func(s *session.Session){
		"a replay":   func(s *session.Session) { subscribe(t, s, 1, replay(t, p, 0)) },
		"a tail":     func(s *session.Session) { subscribe(t, s, 1, tail(t, p, 0)) },
		"a snapshot": func(s *session.Session) { hold(t, s, 1, snapshot(t, p)) },
		"none":       func(s *session.Session) {},
	} {
		is := what != "none"
		s := session.New(1)
		begin(s)
		state := s.State()
		for _, n := range []int{0, 1, maxOutbox - 1} {
			fill(t, s, n)
			want(t, fmt.Sprint(what, ", bytes ", n), s.Ready(), is)
		}
		for _, n := range []int{maxOutbox, maxOutbox + 1, 2 * maxOutbox} {
			fill(t, s, n)
			want(t, fmt.Sprint(what, ", bytes ", n), s.Ready(), false)
			state.Outbox = n
			want(t, what+": Deliver", s.Deliver(), 0)
			want(t, what+": nothing is done", s.State(), state)
		}
		fill(t, s, maxOutbox)
		s.Out(1)
		want(t, what+": one byte was taken", s.Ready(), is)
	}
}

// Who asks whether it is ready changes nothing.
func TestReadyChangesNothing(t *testing.T) {
	p := holding(t, bulky(9)...)
	s, twin := session.New(1), session.New(1)
	for _, one := range []*session.Session{s, twin} {
		for id := range uint32(3) {
			subscribe(t, one, id, replay(t, p, 3*int64(id)))
		}
	}
	for range 9 {
		for range 3 {
			s.Ready()
			s.State()
		}
		want(t, "Deliver", s.Deliver(), twin.Deliver())
	}
	want(t, "what is sent", string(s.Out(1<<20)), string(twin.Out(1<<20)))
}
