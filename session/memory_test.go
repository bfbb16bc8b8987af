package session_test

import (
	"bytes"
	"runtime"
	"testing"

	"chronicle/api"
	"chronicle/probe"
	"chronicle/session"
)

// 18.13

// spare is a response whose lists have room behind their ends, and a check that nothing of them was changed.
func spare(r api.Response) (api.Response, func() bool) {
	names, sameNames := probe.Spare(r.Names, "odd")
	recs, sameRecs := probe.Spare(r.Records, tomb(9, 9, "odd"))
	r.Names, r.Records = names, recs
	return r, func() bool { return sameNames() && sameRecs() }
}

func TestListsHandedInAreNotChangedNorKept(t *testing.T) {
	s := session.New(1)
	var lists []api.Response
	var checks []func() bool
	handIn := func(r api.Response) api.Response {
		r, same := spare(r)
		lists = append(lists, r)
		checks = append(checks, same)
		return r
	}
	want(t, "Send", s.Send(handIn(full(1))), api.OK)
	want(t, "Owe", s.Owe(api.Owed{Topic: 3, Offset: 5, R: handIn(full(2))}), api.OK)
	want(t, "Owe", s.Owe(api.Owed{Topic: 4, Offset: 5, R: handIn(full(3))}), api.OK)
	want(t, "Owe", s.Owe(api.Owed{Topic: 3, Offset: 6, R: handIn(full(4))}), api.OK)
	wrong := full(5)
	wrong.Records[1] = api.Record{}
	want(t, "Send of a wrong one", s.Send(handIn(wrong)), api.ErrResponse)
	want(t, "Owe of a wrong one", s.Owe(api.Owed{R: handIn(wrong)}), api.ErrResponse)
	want(t, "Settle", s.Settle(3, 6), 1)
	for i, same := range checks {
		if !same() {
			t.Errorf("what was handed in by call %d is changed", i)
		}
		probe.Scribble(lists[i].Names)
		probe.Scribble(lists[i].Records)
	}
	want(t, "Settle", s.Settle(4, 6)+s.Settle(3, 7), 2)
	wantOut(t, "as it was handed in", s, full(1), full(2), full(3), full(4))
}

// A list that is handed in may be used for the next answer at once.
func TestOneListForAll(t *testing.T) {
	s := session.New(1)
	recs := make([]api.Record, 1)
	names := make([]string, 1)
	var list []api.Response
	for id := range uint32(5) {
		recs[0], names[0] = value(int64(id), 0, "k", "v"), probe.Text(uint64(id), 3)
		owe(t, s, 3, int64(id), api.Response{Id: id, Op: 7, Names: names, Records: recs})
		list = append(list, api.Response{Id: id, Op: 7, Names: []string{names[0]}, Records: []api.Record{recs[0]}})
	}
	wantSettled(t, "each its own", s, 3, 9, list...)
}

func TestChunksAreNotKept(t *testing.T) {
	buffer := make([]byte, 13)
	var b []byte
	for _, r := range requests() {
		b = append(b, ask(t, r)...)
	}
	s := session.New(1)
	for from := 0; from < len(b); {
		n := copy(buffer, b[from:])
		s.Feed(buffer[:n])
		from += n
	}
	probe.Scribble(buffer)
	whole, unchanged := probe.Roomy(string(b))
	want(t, "Feed", s.Feed(whole), 15)
	want(t, "it is as it was", unchanged(), true)
	probe.Scribble(whole)
	wantNext(t, "in parts, and all at once", s, append(requests(), requests()...)...)
}

// What Out answers may be written into, and appended to: nothing that leaves later shows that.
func TestOutIsNewMemory(t *testing.T) {
	s := session.New(1)
	var all, kept []byte
	for id := range uint32(9) {
		s.Send(full(id))
		all = append(all, frames(t, full(id))...)
	}
	spoil := func(b []byte) {
		kept = append(kept, b...)
		probe.Scribble(append(b, "and more"...))
		probe.Scribble(b)
	}
	for _, n := range []int{1, 10, 100} {
		spoil(s.Out(n))
		s.Send(full(77))
		all = append(all, frames(t, full(77))...)
		spoil(s.Out(n))
	}
	early := s.Out(50)
	keep := bytes.Clone(early)
	kept = append(kept, early...)
	spoil(s.Out(1 << 20))
	for range 20 { // new bytes are not laid over those that were answered
		s.Send(full(78))
	}
	want(t, "what was answered stays", bytes.Equal(early, keep), true)
	want(t, "what leaves is what was sent", bytes.Equal(kept, all), true)
	wantOut(t, "what was sent behind it", s, repeat(full(78), 20)...)
	last := session.New(1)
	last.Send(full(1))
	whole := last.Out(1 << 20)
	last.Send(full(2))
	want(t, "the whole outbox stays", bytes.Equal(whole, frames(t, full(1))), true)
}

func repeat(r api.Response, n int) []api.Response {
	var list []api.Response
	for range n {
		list = append(list, r)
	}
	return list
}

// What was delivered is not the topic's memory, and the topic's is not the session's.
func TestDeliveriesLeaveTopicsAsTheyAre(t *testing.T) {
	p := holding(t, bulky(9)...)
	s := session.New(1)
	subscribe(t, s, 1, tail(t, p, 0))
	hold(t, s, 2, snapshot(t, p))
	for s.Ready() {
		s.Deliver()
		probe.Scribble(s.Out(1 << 20))
	}
	recs, _ := p.Records()
	wantList(t, "the records", recs, bulky(9))
}

// R2: what a session answers hangs on what was done to it alone.
func TestCallsLeaveNothingBehind(t *testing.T) {
	run := func() string {
		s, _, _ := busy(t)
		s.Settle(3, 100)
		s.Refuse(4, 5)
		s.Gone(3)
		return string(s.Out(1 << 24))
	}
	first := run()
	for range 3 {
		want(t, "once more", run() == first, true)
	}
}

// Nothing of what has left a session is kept by it: neither requests nor bytes nor answers nor readers.
func TestWhatHasLeftIsNotKept(t *testing.T) {
	heap := func() uint64 {
		var m runtime.MemStats
		runtime.GC()
		runtime.GC()
		runtime.ReadMemStats(&m)
		return m.HeapAlloc
	}
	const many = 50
	var list []*session.Session
	p := holding(t, bulky(60)...)
	put := requests()[4]
	before := heap()
	for range many {
		s := session.New(1)
		for range 100 {
			s.Feed(ask(t, put))
			s.Next()
		}
		for i := range maxOwed {
			r := api.Response{Id: uint32(i), Op: 7, Records: bulky(3)}
			s.Owe(api.Owed{Topic: 3, Offset: int64(i), R: r})
		}
		s.Settle(3, 1000)
		s.Out(1 << 24)
		for i := range uint32(8) {
			hold(t, s, i, snapshot(t, p))
			if i%2 == 0 {
				s.Unsubscribe(i)
			} else {
				s.Gone(3)
			}
			subscribe(t, s, i, tail(t, p, 0))
			s.Unsubscribe(i)
		}
		s.Out(1 << 24)
		list = append(list, s)
	}
	after := heap()
	if after > before && after-before > many*20000 {
		t.Errorf("%d sessions with nothing in them hold %d bytes", many, after-before)
	}
	for _, s := range list {
		want(t, "State", s.State(), api.SessState{})
	}
	before = after
	for i, s := range list {
		s.Close()
		want(t, "State", list[i].State(), api.SessState{Closed: true})
	}
	if after = heap(); after > before || before-after < many*3000 {
		t.Errorf("closed sessions hold %d bytes less alone", int64(before)-int64(after))
	}
	runtime.KeepAlive(list)
}
