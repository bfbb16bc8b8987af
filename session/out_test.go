package session_test

import (
	"bytes"
	"fmt"
	"math"
	"testing"

	"chronicle/api"
	"chronicle/session"
)

// 18.11
func TestOut(t *testing.T) {
	s := session.New(1)
	want(t, "nothing waits", len(s.Out(9)), 0)
	s.Send(full(1))
	s.Send(full(2))
	all := frames(t, full(1), full(2))
	taken := 0
	out := func(n, wanted int) {
		t.Helper()
		got := s.Out(n)
		if !bytes.Equal(got, all[taken:taken+wanted]) {
			t.Errorf("Out(%d) behind %d bytes: %x", n, taken, got)
		}
		taken += wanted
		want(t, "State", s.State(), api.SessState{Outbox: len(all) - taken})
	}
	for _, n := range []int{0, -1, -9, math.MinInt} {
		out(n, 0)
	}
	out(1, 1)
	out(0, 0)
	out(2, 2)
	out(30, 30)
	s.Send(full(3))
	all = append(all, frames(t, full(3))...)
	out(len(all)-34, len(all)-34)
	out(-1, 0)
	out(2, 1)
	out(1, 0)
	out(math.MaxInt, 0)
	s.Send(full(4))
	all = append(all, frames(t, full(4))...)
	out(len(all)-taken, len(all)-taken)
	s.Send(full(5))
	all = append(all, frames(t, full(5))...)
	out(len(all)-taken+1, len(all)-taken)
}

// Byte by byte, of an outbox that is far above its bound.
func TestOutOfMuch(t *testing.T) {
	for _, size := range []int{1, 7, 4096, 65536, 1 << 20} {
		s := session.New(1)
		var all, got []byte
		for id := range uint32(3000) {
			s.Send(full(id))
			all = append(all, frames(t, full(id))...)
		}
		for len(got) < len(all) {
			part := s.Out(size)
			want(t, "bytes", len(part), min(size, len(all)-len(got)))
			got = append(got, part...)
		}
		want(t, fmt.Sprint("parts of ", size), bytes.Equal(got, all), true)
		want(t, "State", s.State(), api.SessState{})
	}
}

// 18.12
func TestState(t *testing.T) {
	p := holding(t, two()...)
	s := session.New(1)
	want(t, "new", s.State(), api.SessState{})
	s.Feed(stats(t, 0, 5))
	want(t, "requests", s.State(), api.SessState{Inbox: 5})
	s.Send(full(1))
	n := len(frames(t, full(1)))
	want(t, "bytes", s.State(), api.SessState{Inbox: 5, Outbox: n})
	s.Owe(api.Owed{Topic: 3, Offset: 1, R: full(2)})
	s.Owe(api.Owed{Topic: 4, Offset: 1, R: full(2)})
	want(t, "owed", s.State(), api.SessState{Inbox: 5, Outbox: n, Owed: 2})
	for i := range uint32(3) {
		s.Subscribe(i, 3, tail(t, p, 2))
	}
	want(t, "cursors", s.State(), api.SessState{Inbox: 5, Outbox: n, Owed: 2, Subs: 3})
	for i := range uint32(4) {
		s.Hold(10+i, 4, snapshot(t, p))
	}
	want(t, "snapshots", s.State(), api.SessState{Inbox: 5, Outbox: n, Owed: 2, Subs: 3, Snaps: 4})
	s.Next()
	want(t, "one is taken", s.State(), api.SessState{Inbox: 4, Outbox: n, Owed: 2, Subs: 3, Snaps: 4})
	s.Settle(3, 2)
	want(t, "one is settled", s.State(), api.SessState{Inbox: 4, Outbox: 2 * n, Owed: 1, Subs: 3, Snaps: 4})
	s.Out(n + 5)
	want(t, "bytes are taken", s.State(), api.SessState{Inbox: 4, Outbox: n - 5, Owed: 1, Subs: 3, Snaps: 4})
	s.Deliver()
	n = n - 5 + len(frames(t, delivery(10, 2, false, two()...)))
	want(t, "one is delivered", s.State(), api.SessState{Inbox: 4, Outbox: n, Owed: 1, Subs: 3, Snaps: 3})
	s.Unsubscribe(1)
	want(t, "one is taken away", s.State(), api.SessState{Inbox: 4, Outbox: n, Owed: 1, Subs: 2, Snaps: 3})
	s.Feed([]byte{0})
	n += len(frames(t, complaint()))
	want(t, "broken", s.State(), api.SessState{Inbox: 4, Outbox: n, Owed: 1, Subs: 2, Snaps: 3, Broken: true})
	s.Gone(4)
	n += 3 * len(frames(t, ended(11, 2)))
	want(t, "gone", s.State(), api.SessState{Inbox: 4, Outbox: n, Owed: 1, Subs: 2, Broken: true})
	s.Refuse(4, 2)
	n += len(frames(t, api.Response{Id: 2, Op: api.OpGet, Code: 2}))
	want(t, "refused", s.State(), api.SessState{Inbox: 4, Outbox: n, Subs: 2, Broken: true})
	s.Close()
	want(t, "closed", s.State(), api.SessState{Broken: true, Closed: true})
}
