package session_test

import (
	"bytes"
	"fmt"
	"math"
	"slices"
	"testing"

	"chronicle/api"
	"chronicle/cursor"
	"chronicle/probe"
	"chronicle/session"
	"chronicle/stream"
)

// saying is what a client may say: requests and what is none, in one row.
func saying(t *testing.T, count int, end []byte) []byte {
	t.Helper()
	var b []byte
	for i := range count {
		b = append(b, ask(t, stat(i))...)
		switch i % 9 {
		case 2:
			b = append(b, frameOf(t, "\x51")...)
		case 4:
			b = append(b, other(ask(t, requests()[i%15]), 7)...)
		case 6:
			b = append(b, ask(t, requests()[i%15])...)
		case 8:
			b = append(b, join(head(4088), make([]byte, 4092))...)
		}
	}
	return append(b, end...)
}

// heard is all that can be seen of a session that was fed some chunks, and nobody took requests out between.
type heard struct {
	answers int
	inbox   string
	out     string
	state   api.SessState
}

func hear(chunks [][]byte) heard {
	s := session.New(1)
	var h heard
	for _, chunk := range chunks {
		h.answers += s.Feed(chunk)
	}
	h.state = s.State()
	h.out = string(s.Out(math.MaxInt))
	for {
		r, ok := s.Next()
		if !ok {
			return h
		}
		h.inbox += fmt.Sprint(r)
	}
}

// cut is bytes in parts, cut at places that rise.
func cut(b []byte, places []int) [][]byte {
	var parts [][]byte
	from := 0
	for _, at := range places {
		parts = append(parts, b[from:at])
		from = at
	}
	return append(parts, b[from:])
}

// 18.14
func TestAnyCutIsTheSame(t *testing.T) {
	endings := map[string][]byte{"whole": nil, "half a frame": ask(t, stat(1))[:9], "dead": []byte("\xc5\x00\x00\x00\x00more"), "no mark": join([]byte{7}, stats(t, 0, 3))}
	for _, count := range []int{0, 1, 20, 70, 90} {
		for what, end := range endings {
			b := saying(t, count, end)
			right := hear([][]byte{b})
			what = fmt.Sprintf("%d requests, %s", count, what)
			if count == 90 {
				want(t, what+": joined", right.answers, maxInbox)
			}
			var each []int
			for at := range b {
				each = append(each, at)
			}
			want(t, what+", byte by byte", hear(cut(b, each)), right)
			for seed := range uint64(20) {
				var at []int
				for _, x := range probe.Noise(seed, 1<<(seed%8)) {
					at = append(at, int(x>>1))
				}
				want(t, what+", cut anywhere", hear(cut(b, stream.Cuts(len(b), at))), right)
			}
		}
	}
}

func TestAnyOneCutIsTheSame(t *testing.T) {
	b := join(ask(t, stat(1)), frameOf(t, "\x00"), other(ask(t, stat(2)), 9), ask(t, stat(3)), head(4088), make([]byte, 4092), ask(t, stat(4)), []byte{0}, ask(t, stat(5)))
	right := hear([][]byte{b})
	want(t, "requests", right.answers, 3)
	want(t, "sent", right.out, string(frames(t, complaint(), complaint(), complaint(), complaint())))
	for at := range len(b) + 1 {
		want(t, fmt.Sprint("cut at ", at), hear([][]byte{b[:at], nil, b[at:]}), right)
	}
}

// 18.14: however the outbox is taken, what leaves it is the frames that were sent.
func TestAnyTakingIsTheSame(t *testing.T) {
	p := holding(t, bulky(30)...)
	for seed := range uint64(40) {
		s, twin := session.New(1), session.New(1)
		for _, one := range []*session.Session{s, twin} {
			subscribe(t, one, 1, replay(t, p, 0))
			hold(t, one, 2, snapshot(t, p))
		}
		var got, sent []byte
		for i, x := range probe.Noise(seed+1, 200) {
			r := full(uint32(i))
			for _, one := range []*session.Session{s, twin} {
				switch x >> 8 % 4 {
				case 0:
					one.Send(r)
				case 1:
					one.Deliver()
				case 2:
					one.Feed(frameOf(t, "\x00"))
				case 3:
					one.Owe(api.Owed{Topic: int(x >> 16 % 2), Offset: int64(i), R: r})
					one.Settle(0, int64(x>>24%200))
				}
			}
			sent = append(sent, twin.Out(math.MaxInt)...) // so nothing ever waits there
			if x>>32%3 == 0 {
				got = append(got, s.Out(int(x>>40%(1<<(x>>56%16)+1)))...)
			}
			want(t, "bytes that wait", s.State().Outbox, len(sent)-len(got))
		}
		got = append(got, s.Out(math.MaxInt)...)
		want(t, fmt.Sprint("seed ", seed), bytes.Equal(got, sent), true)
		if _, rest := read(got); len(rest) > 0 || len(got) < 10000 {
			t.Errorf("seed %d: of %d bytes %d are no frames", seed, len(got), len(rest))
		}
	}
}

// 18.15
func TestOwedAnswersAreSentOnce(t *testing.T) {
	for seed := range uint64(60) {
		s := session.New(1)
		owed := map[uint32]api.Owed{} // by the answer's id
		next := map[int]int64{}       // each topic's next offset: its offsets rise
		last := map[int]int64{}       // the offset that was settled last
		ends := map[int]int64{}       // the greatest committed end
		sent := map[uint32]int{}
		for i, x := range probe.Noise(seed+1, 300) {
			topic := int(x >> 8 % 3)
			refused := -1
			switch x >> 16 % 8 {
			case 0:
				ends[topic] = max(ends[topic], int64(x>>24)%(next[topic]+2))
				s.Settle(topic, ends[topic])
			case 1:
				if x>>24%4 == 0 {
					refused = topic
					s.Refuse(topic, 2)
				}
			default:
				o := api.Owed{Topic: topic, Offset: next[topic], R: taken(uint32(i), next[topic])}
				next[topic] += 1 + int64(x>>24%3)
				want(t, "Owe", s.Owe(o), api.OK)
				owed[uint32(i)] = o
			}
			list, _ := read(s.Out(math.MaxInt))
			for _, r := range list {
				o, there := owed[r.Id]
				sent[r.Id]++
				want(t, "it was owed", there, true)
				want(t, "times", sent[r.Id], 1)
				if refused == o.Topic {
					want(t, "Code", r.Code, 2)
					continue
				}
				want(t, "Code", r.Code, 0)
				if o.Offset >= ends[o.Topic] || o.Offset < last[o.Topic] {
					t.Errorf("the answer for %d is sent at the end %d, behind %d", o.Offset, ends[o.Topic], last[o.Topic])
				}
				last[o.Topic] = o.Offset
			}
		}
		want(t, "owed still", s.State().Owed, len(owed)-len(sent))
		for topic := range 3 {
			s.Settle(topic, math.MaxInt64)
		}
		list, _ := read(s.Out(math.MaxInt))
		for _, r := range list {
			sent[r.Id]++
		}
		want(t, "all are sent", len(sent), len(owed))
		for id, n := range sent {
			want(t, fmt.Sprint("times that ", id, " is sent"), n, 1)
		}
	}
}

// ownTelling is what a cursor tells of itself, as deliveries for an id, till it has no more.
func ownTelling(c *cursor.Cursor, id uint32) []api.Response {
	var list []api.Response
	for !c.Waits() {
		piece, _ := c.Next(1000, maxFrame-45)
		list = append(list, delivery(id, piece.Next, piece.State == api.CurOpen, piece.Recs...))
		if piece.State != api.CurOpen {
			break
		}
	}
	return list
}

// ownPairs is what a snapshot tells of itself.
func ownPairs(p *cursor.Snap, id uint32) []api.Response {
	var list []api.Response
	for state := api.CurOpen; state == api.CurOpen; {
		var pairs []api.Pair
		pairs, state, _ = p.Next(40, 3000)
		r := delivery(id, p.Moment(), state == api.CurOpen)
		for _, x := range pairs {
			r.Records = append(r.Records, value(x.Off, x.Time, x.Key, x.Value))
		}
		list = append(list, r)
	}
	return list
}

// 18.16: what deliveries tell of one reader is what it tells of itself, whoever else is delivered between.
func TestWhatReadersTell(t *testing.T) {
	big, small := holding(t, bulky(25)...), holding(t, pairs(300, 40)...)
	s := session.New(1)
	right := map[uint32][]api.Response{}
	for id := range uint32(12) {
		p := big
		if id%2 == 1 {
			p = small
		}
		switch id % 3 {
		case 0:
			hold(t, s, id, snapshot(t, p))
			right[id] = ownPairs(snapshot(t, p), id)
		case 1:
			subscribe(t, s, id, tail(t, p, int64(id)))
			right[id] = ownTelling(tail(t, p, int64(id)), id)
		case 2:
			subscribe(t, s, id, replay(t, p, int64(id)))
			right[id] = ownTelling(replay(t, p, int64(id)), id)
		}
	}
	got := map[uint32][]api.Response{}
	for s.Ready() {
		s.Deliver()
		list, _ := read(s.Out(math.MaxInt))
		got[list[0].Id] = append(got[list[0].Id], list...)
	}
	for id, list := range right {
		if len(list) < 3 {
			t.Errorf("reader %d tells %d pieces alone", id, len(list))
		}
		want(t, fmt.Sprint("reader ", id), bytes.Equal(frames(t, got[id]...), frames(t, list...)), true)
	}
	want(t, "tails go on", s.State(), api.SessState{Subs: 4})
}

// 18.16: of k readers that have something to tell all along each one is delivered within k calls.
func TestEachOneInTurn(t *testing.T) {
	for seed := range uint64(60) {
		h := newHall(t)
		there := map[uint32]int{}
		for _, x := range probe.Noise(seed+1, 25) { // whatever was done ahead
			id := uint32(x >> 8 % 8)
			if x>>16%3 == 0 {
				id += 100
			}
			switch x >> 24 % 3 {
			case 0:
				if there[id] == 0 && (id < 100 || h.s.State().Snaps < maxSnaps) {
					h.long(id)
					there[id]++
				}
			case 1:
				if there[id] > 0 && x>>32%2 == 0 {
					h.leave(id)
					delete(there, id)
				}
			default:
				for _, id := range h.turns(int(x >> 32 % 4)) {
					want(t, "it is a reader", there[id] > 0, true)
				}
			}
		}
		k := len(there)
		for range 3 {
			ids := h.turns(k)
			slices.Sort(ids)
			want(t, fmt.Sprintf("seed %d: of %d readers are delivered", seed, k), len(slices.Compact(ids)), k)
		}
	}
}

// 18.17
func TestDeliveriesAndTheBound(t *testing.T) {
	p, recs := greatest(t, 30, api.MaxKey+980) // three of them nearly fill a frame
	for _, n := range []int{0, 1, maxOutbox - 4000, maxOutbox - 1} {
		s := session.New(1)
		subscribe(t, s, 1, tail(t, p, recs[0].Offset))
		hold(t, s, 2, snapshot(t, p))
		fill(t, s, n)
		for s.Ready() {
			ahead := s.State().Outbox
			s.Deliver()
			behind := s.State().Outbox
			if ahead >= maxOutbox || behind > ahead+maxFrame || behind > maxOutbox-1+maxFrame {
				t.Errorf("a delivery brings the outbox from %d to %d bytes", ahead, behind)
			}
		}
		want(t, "Deliver", s.Deliver(), 0)
	}
	s := session.New(1)
	subscribe(t, s, 1, replay(t, p, recs[0].Offset))
	fill(t, s, maxOutbox-1)
	want(t, "Deliver", s.Deliver(), 3)
	if n := s.State().Outbox; n < maxOutbox+3000 || n > maxOutbox-1+maxFrame {
		t.Errorf("%d bytes wait", n)
	}
	want(t, "Deliver", s.Deliver(), 0)
}
