package session_test

import (
	"fmt"
	"math"
	"testing"

	"chronicle/api"
	"chronicle/session"
)

// wantEmpty fails unless there is nothing in a session.
func wantEmpty(t *testing.T, what string, s *session.Session) {
	t.Helper()
	want(t, what+": State", s.State(), api.SessState{})
	_, ok := s.Next()
	want(t, what+": Next", ok, false)
	want(t, what+": Ready", s.Ready(), false)
	want(t, what+": Deliver", s.Deliver(), 0)
	want(t, what+": Gone", s.Gone(0)+s.Gone(3), 0)
	want(t, what+": Settle", s.Settle(0, math.MaxInt64)+s.Settle(3, math.MaxInt64), 0)
	want(t, what+": Refuse", s.Refuse(0, 2)+s.Refuse(3, 2), 0)
	want(t, what+": Unsubscribe", s.Unsubscribe(0), api.ErrNoSub)
	want(t, what+": Out", len(s.Out(math.MaxInt)), 0)
	want(t, what+": State", s.State(), api.SessState{})
}

// 18.1
func TestNew(t *testing.T) {
	for _, id := range []int{0, 1, 9, -1, math.MaxInt, math.MinInt} {
		what := fmt.Sprint("number ", id)
		s := session.New(id)
		want(t, what, s.Id(), id)
		wantEmpty(t, what, s)
		want(t, what+": Feed", s.Feed(stats(t, 0, 3)), 3)
		want(t, what+": Send", s.Send(full(1)), api.OK)
		want(t, what+", behind that", s.Id(), id)
		s.Feed([]byte{0})
		want(t, what+", broken", s.Id(), id)
		s.Close()
		want(t, what+", closed", s.Id(), id)
	}
	var none *session.Session
	want(t, "a nil one", none.Id(), 0)
}

// Two sessions have nothing in common.
func TestSessionsApart(t *testing.T) {
	p := holding(t, two()...)
	one, twin := session.New(5), session.New(5)
	b := stats(t, 1, 3)
	for at := range b {
		one.Feed(b[at : at+1])
		if at%2 == 0 {
			twin.Feed(b[at/2 : at/2+1])
		}
	}
	want(t, "the one", one.State().Inbox, 2)
	want(t, "the other", twin.State().Inbox, 1)
	one.Send(full(1))
	one.Owe(api.Owed{Topic: 3, Offset: 5, R: full(2)})
	subscribe(t, one, 4, tail(t, p, 0))
	hold(t, one, 5, snapshot(t, p))
	one.Feed([]byte{1})
	want(t, "the other", twin.State(), api.SessState{Inbox: 1})
	one.Close()
	want(t, "the other, behind a close", twin.State(), api.SessState{Inbox: 1})
	want(t, "it goes on", twin.Feed(b[len(b)/2:]), 1)
	wantOut(t, "the other", twin)
}
