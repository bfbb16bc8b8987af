package session_test

import (
	"bytes"
	"fmt"
	"testing"

	"chronicle/api"
	"chronicle/cursor"
	"chronicle/probe"
	"chronicle/session"
	"chronicle/simfs"
	"chronicle/topic"
)

// play is a session that is held against the model, over two topics that are written to, merged and dropped.
type play struct {
	t      *testing.T
	s      *session.Session
	m      *model
	d      *simfs.Disk
	topics [2]*topic.Topic
	number int // of the topic that was made last
	clock  int64
	stream []byte // what the client will say next
	lack   int    // what is seldom done
}

// What a play may lack: so something comes to its bound.
const (
	nothing = iota
	requestsTaken
	answersSettled
	bytesTaken
	lacks
)

func newPlay(t *testing.T, lack int, count map[string]int) *play {
	t.Helper()
	d, _ := simfs.New(1 << 24)
	p := &play{t: t, s: session.New(1), m: &model{t: t, count: count}, d: d, lack: lack}
	for i := range p.topics {
		p.make(i)
	}
	return p
}

// make makes a new topic at a place.
func (p *play) make(at int) {
	p.t.Helper()
	p.number++
	made, e := topic.Create(p.d, p.number, 4096, 5, p.clock)
	want(p.t, "Create", e, api.OK)
	p.topics[at] = made
}

// write appends some records to a topic, and commits them, or lets them wait.
func (p *play) write(x uint64) {
	at := p.topics[x%2]
	for i := range x >> 8 % 4 {
		y := x>>16 + i*77
		w := api.Write{Key: fmt.Sprintf("key %d", y%60), Value: probe.Text(y, int(y>>4%3*y>>8%500))}
		if y>>3%4 == 0 {
			w = api.Write{Key: w.Key, Tombstone: true}
		}
		at.Append(p.clock, w)
	}
	if x>>12%4 > 0 {
		want(p.t, "Commit", at.Commit(), api.OK)
	}
}

// change does something to a topic: it is merged, or dropped, and its readers are told that or not.
func (p *play) change(x uint64) {
	at := int(x % 2)
	if x>>8%5 > 0 {
		if left, _ := p.topics[at].Records(); len(left) > 0 {
			p.clock += int64(x >> 16 % 9)
			compact(p.t, p.topics[at], p.clock)
		}
		return
	}
	id := p.topics[at].Id()
	want(p.t, "Drop", p.topics[at].Drop(), api.OK)
	if x>>16%2 == 0 {
		p.gone(id)
	}
	p.make(at)
}

func (p *play) gone(topic int) { want(p.t, "Gone", p.s.Gone(topic), p.m.gone(topic)) }

// begin begins a reader somewhere in a topic.
func (p *play) begin(x uint64) {
	at := p.topics[x%2]
	w := &twin{id: uint32(x >> 8 % 16), topic: at.Id()}
	from := int64(x>>16) % (at.State().Committed + 1)
	f := cursor.Tail
	switch x >> 32 % 3 {
	case 0:
		q, e := cursor.Snapshot(at)
		w.p, _ = cursor.Snapshot(at)
		want(p.t, "Snapshot", e, api.OK)
		want(p.t, "Hold", p.s.Hold(w.id, w.topic, q), p.m.begin(w))
		return
	case 1:
		f = cursor.Replay
	}
	c, e := f(at, from)
	if e == api.OK {
		w.c, _ = f(at, from)
		want(p.t, "Subscribe", p.s.Subscribe(w.id, w.topic, c), p.m.begin(w))
	}
}

// say feeds some of what the client says.
func (p *play) say(x uint64) {
	for uint64(len(p.stream)) < x>>8%700 {
		y := x >> 16
		x = x*6364136223846793005 + 1442695040888963407
		list := requests()
		switch r := list[y%15]; {
		case y>>8%40 == 0:
			p.stream = append(p.stream, frameOf(p.t, "\x51\x00")...)
		case y>>8%40 == 1:
			p.stream = append(p.stream, other(ask(p.t, r), 5)...)
		case y>>8%40 == 2:
			p.stream = append(p.stream, join(head(4100), make([]byte, 4104))...)
		case y>>8%600 == 3:
			p.stream = append(p.stream, 0)
		default:
			p.stream = append(p.stream, ask(p.t, r)...)
		}
	}
	n := min(int(x>>8%700), len(p.stream))
	want(p.t, "Feed", p.s.Feed(p.stream[:n]), p.m.feed(p.stream[:n]))
	p.stream = p.stream[n:]
}

// owe owes, settles and refuses answers.
func (p *play) owe(x uint64) {
	topic, offset := int(x>>8%3), int64(x>>16%20)
	what := x % 16
	if p.seldom(answersSettled, x) {
		what = 15
	}
	switch what {
	case 0:
		want(p.t, "Settle", p.s.Settle(topic, offset), p.m.settle(topic, offset))
	case 1:
		code := int(x>>32%14) - 1
		want(p.t, "Refuse", p.s.Refuse(topic, code), p.m.refuse(topic, code))
	default:
		o := api.Owed{Topic: topic, Offset: offset, R: full(uint32(x >> 40))}
		for range x >> 24 % 12 {
			want(p.t, "Owe", p.s.Owe(o), p.m.owe(o))
		}
	}
}

// deliver delivers some pieces.
func (p *play) deliver(n uint64) {
	for range n {
		ahead := p.m.ready()
		want(p.t, "Deliver", p.s.Deliver(), p.m.deliver())
		if n := p.s.State().Outbox; ahead && n > maxOutbox-1+maxFrame { // 18.17
			p.t.Errorf("a delivery brings the outbox to %d bytes", n)
		}
	}
}

// take takes bytes out of the outbox, few or many.
func (p *play) take(x uint64) {
	n := int(x>>16%2000) - 10
	if x>>8%16 == 0 {
		n = 1 << 20
	}
	if p.seldom(bytesTaken, x) {
		n = int(x >> 16 % 100)
	}
	if got, right := p.s.Out(n), p.m.take(n); !bytes.Equal(got, right) {
		p.t.Fatalf("Out(%d): %s, want %s", n, told(got), told(right))
	}
}

// step does one thing.
func (p *play) step(x uint64) {
	y := x >> 8
	p.do(x%24, y)
	want(p.t, "State", p.s.State(), p.m.state())
	want(p.t, "Ready", p.s.Ready(), p.m.ready())
}

// seldom tells whether this is one of the times at which a thing that is lacking is not done.
func (p *play) seldom(lack int, x uint64) bool { return p.lack == lack && x>>20%16 > 0 }

func (p *play) do(what, y uint64) {
	switch what {
	case 0, 1, 2, 3:
		p.say(y)
	case 4, 5:
		if p.seldom(requestsTaken, y) {
			return
		}
		for range y % 12 {
			got, ok := p.s.Next()
			right, is := p.m.next()
			want(p.t, "Next", got, right)
			want(p.t, "Next", ok, is)
		}
	case 6:
		r := full(uint32(y))
		want(p.t, "Send", p.s.Send(r), api.OK)
		p.m.send(r)
	case 7, 8:
		p.owe(y)
	case 9, 10, 11:
		p.begin(y)
	case 12:
		id := uint32(y % 16)
		want(p.t, "Unsubscribe", p.s.Unsubscribe(id), p.m.unsubscribe(id))
	case 13:
		p.change(y)
	case 14, 15, 16:
		p.take(y)
	case 17, 18, 19:
		p.write(y)
		p.clock += int64(y >> 40 % 3)
	default:
		p.deliver(y % 20)
	}
}

// What a session answers and sends is what the document says, whatever is done in whatever order.
func TestScripts(t *testing.T) {
	count := map[string]int{}
	for seed := range uint64(100) {
		p := newPlay(t, int(seed)%lacks, count)
		for i, x := range probe.Noise(seed+1, 500) {
			p.step(x >> 7)
			if len(p.m.out) >= maxOutbox {
				count["a full outbox"]++
			}
			if t.Failed() {
				t.Fatalf("seed %d, step %d", seed, i)
			}
		}
		if p.m.broken {
			count["broken"]++
		}
		p.take(0) // all
		want(t, "State", p.s.State(), p.m.state())
		p.s.Close()
		want(t, "closed", p.s.State(), api.SessState{Broken: p.m.broken, Closed: true})
	}
	for what, least := range map[string]int{
		"joined": 1000, "too many": 100, "no request": 100, "a bad frame": 100, "broken": 5,
		"settled": 1000, "refused": 300, "owed too many": 100,
		"a cursor's piece": 1000, "a snapshot's piece": 300, "a replay's end": 100, "a reader's end": 500,
		"passed": 20, "an error": 20, "gone": 20, "taken away": 50, "no more cursors": 50, "no more snapshots": 20, "a full outbox": 100,
	} {
		if count[what] < least {
			t.Errorf("%s: seen %d times, want %d and more", what, count[what], least)
		}
	}
	t.Log(count)
}
