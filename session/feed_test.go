package session_test

import (
	"encoding/binary"
	"fmt"
	"testing"

	"chronicle/api"
	"chronicle/probe"
	"chronicle/session"
)

// wantFeed fails unless so many requests join the inbox and this is sent; what is handed in is written over behind that.
func wantFeed(t *testing.T, what string, s *session.Session, chunk []byte, joined int, list ...api.Response) {
	t.Helper()
	ahead := s.State().Inbox
	mine, unchanged := probe.Roomy(string(chunk))
	want(t, what+": Feed", s.Feed(mine), joined)
	want(t, what+": the chunk is as it was", unchanged(), true)
	probe.Scribble(mine)
	want(t, what+": requests that wait", s.State().Inbox, ahead+joined)
	wantOut(t, what, s, list...)
}

// wantNext fails unless the next requests are these.
func wantNext(t *testing.T, what string, s *session.Session, list ...api.Request) {
	t.Helper()
	for i, r := range list {
		ahead := s.State()
		got, ok := s.Next()
		if got != r || !ok {
			t.Errorf("%s: request %d: %.200v, %t, want %.200v", what, i, got, ok, r)
		}
		ahead.Inbox--
		want(t, what+": State", s.State(), ahead)
	}
}

// wantNoNext fails unless no request waits.
func wantNoNext(t *testing.T, what string, s *session.Session) {
	t.Helper()
	for range 2 {
		got, ok := s.Next()
		want(t, what+": nothing waits", ok, false)
		want(t, what+": nothing is told", got, api.Request{})
		want(t, what+": requests that wait", s.State().Inbox, 0)
	}
}

// wantWhole fails if a session is broken, and wantBroken unless it is: then nothing that comes is looked at.
func wantWhole(t *testing.T, what string, s *session.Session) {
	t.Helper()
	want(t, what+": broken", s.State().Broken, false)
	wantFeed(t, what+": a request behind it", s, ask(t, stat(77)), 1)
}

func wantBroken(t *testing.T, what string, s *session.Session) {
	t.Helper()
	for _, chunk := range [][]byte{nil, {}, {0}, {0xc5}, ask(t, stat(77)), stats(t, 0, 70), make([]byte, 9999), head(0), head(5000)} {
		want(t, what+": broken", s.State().Broken, true)
		wantFeed(t, what+", behind it", s, chunk, 0)
	}
	want(t, what+": broken", s.State().Broken, true)
}

// head is the first five bytes of a frame whose body has any length.
func head(length uint32) []byte { return binary.BigEndian.AppendUint32([]byte{0xc5}, length) }

// 18.2

// Example 1.
func TestFeed(t *testing.T) {
	s := session.New(1)
	one, two := api.Request{Id: 1, Op: api.OpPing}, api.Request{Id: 2, Op: api.OpGet, Topic: "t", Key: "k"}
	wantFeed(t, "two", s, join(ask(t, one), ask(t, two)), 2)
	wantNext(t, "the first", s, one)
	wantFeed(t, "a body of a zero", s, frameOf(t, "\x00"), 0, complaint())
	wantNext(t, "the second", s, two)
	wantNoNext(t, "behind them", s)
}

func TestFeedOfNothing(t *testing.T) {
	s := session.New(1)
	b := ask(t, stat(1))
	for _, part := range [][]byte{nil, b[:1], b[1:5], b[5 : len(b)-1], b[len(b)-1:]} {
		joined := 0
		if len(part) > 0 && &part[0] == &b[len(b)-1] {
			joined = 1
		}
		wantFeed(t, "a part", s, part, joined)
		for _, chunk := range [][]byte{nil, {}, make([]byte, 0, 9)} {
			wantFeed(t, "nothing", s, chunk, 0)
		}
	}
	wantNext(t, "all the same", s, stat(1))
	s.Feed([]byte{0})
	s.Out(99)
	wantFeed(t, "nothing, of a broken one", s, nil, 0)
}

func TestEachOperation(t *testing.T) {
	s := session.New(1)
	var all []byte
	for _, r := range requests() {
		wantFeed(t, fmt.Sprint("operation ", r.Op), s, ask(t, r), 1)
		wantNext(t, fmt.Sprint("operation ", r.Op), s, r)
		all = append(all, ask(t, r)...)
	}
	want(t, "operations", len(requests()), 15)
	wantFeed(t, "all at once", s, all, 15)
	wantNext(t, "all at once", s, requests()...)
	wantNoNext(t, "behind them", s)
}

func TestByteByByte(t *testing.T) {
	s := session.New(1)
	for range 2 {
		for _, r := range requests() {
			b := ask(t, r)
			for at := range b {
				joined := 0
				if at == len(b)-1 {
					joined = 1
				}
				wantFeed(t, fmt.Sprintf("operation %d, byte %d", r.Op, at), s, b[at:at+1], joined)
			}
		}
	}
	wantNext(t, "all of them", s, append(requests(), requests()...)...)
	bad := noRequests(t)["a byte more"]
	for at := range bad[1:] {
		wantFeed(t, "no request, not yet", s, bad[at:at+1], 0)
	}
	wantFeed(t, "no request", s, bad[len(bad)-1:], 0, complaint())
	wantWhole(t, "no request", s)
}

// refusals is the answers of the requests that have no room, with the ids from .. end-1.
func refusals(from, end int) []api.Response {
	var list []api.Response
	for id := from; id < end; id++ {
		list = append(list, tooMany(stat(id)))
	}
	return list
}

// Example 6.
func TestTooMany(t *testing.T) {
	for _, n := range []int{1, 63, 64, 65, 66, 100, 500} {
		s := session.New(1)
		what := fmt.Sprint(n, " requests")
		wantFeed(t, what, s, stats(t, 0, n), min(n, maxInbox), refusals(maxInbox, n)...)
		if n >= maxInbox {
			wantFeed(t, what+", and one more", s, ask(t, stat(777)), 0, tooMany(stat(777)))
			wantFeed(t, what+", and what is none", s, frameOf(t, "\x00"), 0, complaint())
		}
		for id := range min(n, maxInbox) {
			wantNext(t, what, s, stat(id))
		}
		wantNoNext(t, what, s)
	}
}

func TestTooManyOneByOne(t *testing.T) {
	s := session.New(1)
	for id := range maxInbox {
		wantFeed(t, "one", s, ask(t, stat(id)), 1)
	}
	for _, r := range requests() {
		wantFeed(t, "one more", s, ask(t, r), 0, tooMany(r))
	}
	want(t, "requests that wait", s.State().Inbox, maxInbox)
}

func TestTooManyWithSomeTakenOut(t *testing.T) {
	s := session.New(1)
	first, end := 0, 0 // the ids that wait
	for round := range 20 {
		taken := round * 7 % 65 % (end - first + 1)
		for range taken {
			wantNext(t, "taken out", s, stat(first))
			first++
		}
		more := round * 11 % 40
		room := maxInbox - (end - first)
		joined := min(more, room)
		wantFeed(t, fmt.Sprint("round ", round), s, stats(t, end, end+more), joined, refusals(end+joined, end+more)...)
		end += joined // the ids of those that had no room come once more
	}
	for id := first; id < end; id++ {
		wantNext(t, "the rest", s, stat(id))
	}
	wantNoNext(t, "the rest", s)
}

func TestNoRequests(t *testing.T) {
	for what, b := range noRequests(t) {
		s := session.New(1)
		wantFeed(t, what, s, b, 0, complaint())
		wantWhole(t, what, s)
		wantFeed(t, what+", among others", s, join(ask(t, stat(1)), b, ask(t, stat(2)), b, b), 2, complaint(), complaint(), complaint())
		wantNext(t, what, s, stat(77), stat(1), stat(2))
	}
}

// One byte of a frame is another one: of its sum, or of its body.
func TestSpoilt(t *testing.T) {
	b := ask(t, stat(1))
	for at := 5; at < len(b); at++ {
		what := fmt.Sprint("byte ", at)
		s := session.New(1)
		wantFeed(t, what, s, join(other(b, at), ask(t, stat(2))), 1, complaint())
		wantWhole(t, what, s)
		wantNext(t, what, s, stat(2), stat(77))
	}
}

func TestTooLong(t *testing.T) {
	for _, length := range []uint32{maxFrame - 8, maxFrame, 70000} {
		what := fmt.Sprint("length ", length)
		s := session.New(1)
		b := join(head(length), make([]byte, 4+length))
		wantFeed(t, what+": four bytes", s, b[:4], 0)
		wantFeed(t, what+": the fifth", s, b[4:5], 0, complaint())
		wantFeed(t, what+": passed over", s, b[5:len(b)-1], 0)
		wantFeed(t, what+": the last one", s, join(b[len(b)-1:], ask(t, stat(1))), 1)
		wantWhole(t, what, s)
		wantFeed(t, what+": all at once", s, join(ask(t, stat(2)), b, ask(t, stat(3))), 2, complaint())
		wantNext(t, what, s, stat(1), stat(77), stat(2), stat(3))
	}
	s := session.New(1)
	wantFeed(t, "never ending", s, join(head(1<<32-1), stats(t, 0, 9)), 0, complaint())
	want(t, "broken", s.State().Broken, false)
}

func TestGivenUp(t *testing.T) {
	for what, wrong := range map[string][]byte{
		"no mark":         {0},
		"another byte":    {0xc4},
		"a text":          []byte("hello"),
		"a length of 0":   head(0),
		"and much behind": join([]byte{1}, make([]byte, 9999)),
	} {
		s := session.New(1)
		wantFeed(t, what, s, wrong, 0, complaint())
		wantBroken(t, what, s)
		wantNoNext(t, what, s)

		s = session.New(1)
		wantFeed(t, what+", in the midst", s, join(stats(t, 0, 3), frameOf(t, "\x00"), wrong, stats(t, 3, 9)), 3, complaint(), complaint())
		wantBroken(t, what+", in the midst", s)
		wantNext(t, what+", in the midst", s, stat(0), stat(1), stat(2))
		wantNoNext(t, what+", in the midst", s)

		s = session.New(1)
		wantFeed(t, what+", behind too many", s, join(stats(t, 0, 66), wrong), 64, append(refusals(64, 66), complaint())...)
		wantBroken(t, what+", behind too many", s)
	}
	s := session.New(1)
	wantFeed(t, "four bytes of a length", s, head(0)[:4], 0)
	want(t, "broken", s.State().Broken, false)
	wantFeed(t, "the fifth", s, head(0)[4:], 0, complaint())
	wantBroken(t, "a length of 0, in two parts", s)
}

// A session that is broken does all else as ever.
func TestBrokenGoesOn(t *testing.T) {
	p := holding(t, two()...)
	s := session.New(1)
	wantFeed(t, "broken", s, join(stats(t, 0, 2), []byte{0}), 2, complaint())
	want(t, "Send", s.Send(full(1)), api.OK)
	want(t, "Owe", s.Owe(api.Owed{Topic: 3, Offset: 5, R: full(2)}), api.OK)
	want(t, "Owe", s.Owe(api.Owed{Topic: 4, Offset: 5, R: full(3)}), api.OK)
	want(t, "Settle", s.Settle(3, 6), 1)
	want(t, "Refuse", s.Refuse(4, 2), 1)
	subscribe(t, s, 7, replay(t, p, 0))
	hold(t, s, 8, snapshot(t, p))
	hold(t, s, 9, snapshot(t, p))
	want(t, "Ready", s.Ready(), true)
	want(t, "Deliver", s.Deliver(), 2)
	want(t, "Unsubscribe", s.Unsubscribe(8), api.OK)
	want(t, "Gone", s.Gone(3), 1)
	wantOut(t, "all of that", s, full(1), full(2), api.Response{Id: 3, Op: api.OpGet, Code: 2}, delivery(7, 2, false, two()...), ended(9, 2))
	wantNext(t, "requests", s, stat(0), stat(1))
	want(t, "State", s.State(), api.SessState{Broken: true})
}

// 18.3
func TestNext(t *testing.T) {
	s := session.New(1)
	wantNoNext(t, "nothing came", s)
	wantFeed(t, "three", s, stats(t, 0, 3), 3)
	wantNext(t, "the oldest", s, stat(0))
	wantFeed(t, "two more", s, stats(t, 3, 5), 2)
	wantNext(t, "the others", s, stat(1), stat(2), stat(3))
	wantFeed(t, "one more", s, stats(t, 5, 6), 1)
	wantNext(t, "the last ones", s, stat(4), stat(5))
	wantNoNext(t, "all are taken", s)
	for id := range 200 {
		wantFeed(t, "in", s, ask(t, stat(id)), 1)
		wantNext(t, "out", s, stat(id))
	}
	wantNoNext(t, "all are taken", s)
}
