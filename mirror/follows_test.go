package mirror_test

import (
	"fmt"
	"math"
	"testing"

	"chronicle/api"
	"chronicle/broker"
	"chronicle/merge"
	"chronicle/mirror"
	"chronicle/probe"
	"chronicle/simfs"
	"chronicle/stream"
	"chronicle/wire"
)

// pair is a store that a broker serves, and a mirror that follows its topic "t", each on a disk of its own.
type pair struct {
	t      *testing.T
	dice   []uint64
	count  map[string]int
	cfg    api.Config
	limit  int // of the mirror's segments
	now    int64
	bd, md *simfs.Disk
	b      *broker.Broker
	m      *mirror.Mirror
	merge  *merge.Merge // of the copy
	client int          // the connection of who writes
	conn   int          // the mirror's one; 0: it has none
	toB    []byte       // bytes on their way
	toM    []byte
	frames *stream.Reader // of what is on its way to the mirror
}

func (p *pair) roll(n int) int {
	x := p.dice[0]
	p.dice = p.dice[1:]
	return int(x >> 20 % uint64(n))
}

func newPair(t *testing.T, seed uint64, count map[string]int) *pair {
	t.Helper()
	p := &pair{t: t, dice: probe.Noise(seed+1, 200000), count: count}
	p.cfg = api.Config{Limit: 256 + 200*p.roll(4), Horizon: int64(p.roll(3) * p.roll(20)), Share: 1 + p.roll(60)}
	p.limit = 400 + 300*p.roll(4)
	p.bd, p.md = loaded(t, nil), loaded(t, nil)
	want(t, "Format", broker.Format(p.bd, p.cfg, 0), api.OK)
	p.openBroker(p.bd.Image())
	p.openMirror(p.md.Image())
	return p
}

// openBroker opens the store over an image, which may take several times.
func (p *pair) openBroker(image []api.File) {
	p.t.Helper()
	p.lose()
	for {
		p.bd = loaded(p.t, image)
		if p.roll(3) == 0 {
			p.bd.Fuse(p.roll(12))
		}
		b, e := broker.Open(p.bd, p.cfg, p.now)
		if e == api.OK {
			p.b = b
			break
		}
		want(p.t, "broker.Open", e, api.ErrDead)
		image = p.left(p.bd)
	}
	p.client, _ = p.b.Connect()
	p.bd.Fuse(-1)
}

// openMirror opens the mirror likewise. Its place is one that was noted.
func (p *pair) openMirror(image []api.File) {
	p.t.Helper()
	p.conn, p.toB, p.toM, p.merge = 0, nil, nil, nil // the broker does not know of it yet
	for {
		p.md = loaded(p.t, image)
		if p.roll(3) == 0 {
			p.md.Fuse(p.roll(12))
			p.count["little power in an Open"]++
		}
		m, e := mirror.Open(p.md, "t", copyId, p.limit, p.now)
		if e == api.OK {
			p.m = m
			break
		}
		want(p.t, "mirror.Open", e, api.ErrDead)
		image = p.left(p.md)
	}
	p.md.Fuse(-1)
}

// left is what a crash leaves, by chance.
func (p *pair) left(d *simfs.Disk) []api.File {
	var picks []int
	for range p.roll(40) {
		picks = append(picks, p.roll(1000))
	}
	return d.Crash(picks)
}

// lose ends the mirror's connection, on both sides.
func (p *pair) lose() {
	if p.m != nil {
		p.m.Lost()
	}
	if p.conn > 0 {
		p.b.Shut(p.conn)
	}
	p.conn, p.toB, p.toM = 0, nil, nil
}

// say asks the broker something for who writes.
func (p *pair) say(r api.Request) {
	frame, e := wire.EncodeRequest(r)
	want(p.t, "EncodeRequest", e, api.OK)
	p.b.Feed(p.client, frame)
	for p.b.State().Dead == false && p.roll(4) > 0 {
		p.b.Step(p.now, p.roll(4))
	}
	p.b.Out(p.client, math.MaxInt)
}

// write is something that the source's writer asks.
func (p *pair) write() {
	key := fmt.Sprint("k", p.roll(9))
	switch n := p.roll(40); {
	case n == 0:
		p.say(api.Request{Op: api.OpDrop, Topic: "t"})
		p.count["dropped"]++
	case n < 4:
		p.say(api.Request{Op: api.OpCreate, Topic: "t", Number: int64(p.roll(9))})
	case n == 4:
		p.say(api.Request{Op: api.OpCreate, Topic: fmt.Sprint("u", p.roll(3))})
	case n < 20:
		p.say(api.Request{Op: api.OpDelete, Topic: "t", Key: key})
	default:
		p.say(api.Request{Op: api.OpPut, Topic: "t", Key: key, Value: probe.Text(uint64(p.roll(900)), p.roll(80))})
	}
}

// talk hands over some of what is asked and answered, in chunks.
func (p *pair) talk() {
	p.t.Helper()
	if p.conn == 0 {
		p.connect()
	}
	ask := p.m.Ask()
	if r, e := wire.DecodeRequest(ask); e == api.OK {
		p.count[fmt.Sprint("asked ", r.Op)]++
	}
	p.toB = append(p.toB, ask...)
	n := p.roll(len(p.toB) + 1)
	p.b.Feed(p.conn, p.toB[:n])
	p.toB = p.toB[n:]
	for range p.roll(4) {
		p.b.Step(p.now, p.roll(4))
	}
	p.take(p.roll(300))
	p.hear(p.toM[:p.roll(len(p.toM)+1)])
}

// connect makes a connection; where there are too many of a mirror's that is no more, these are shut.
func (p *pair) connect() {
	p.t.Helper()
	var e api.Errno
	p.frames, _ = stream.New(4096)
	p.conn, e = p.b.Connect()
	for conn := 1; e == api.ErrConns; conn++ {
		if conn != p.client && p.b.Shut(conn) == api.OK {
			p.conn, e = p.b.Connect()
		}
	}
	want(p.t, "Connect", e, api.OK)
}

// take takes some of what the broker has for the mirror.
func (p *pair) take(n int) {
	out, _ := p.b.Out(p.conn, n)
	p.toM = append(p.toM, out...)
	for _, piece := range p.frames.Feed(out) {
		frame, _ := wire.Frame(piece.Body)
		if r, e := wire.DecodeResponse(frame); e == api.OK && r.Code != api.CodeOK {
			p.count[fmt.Sprint("code ", r.Code)]++
		}
	}
}

// hear hands the mirror some of what is on its way to it, in chunks.
func (p *pair) hear(b []byte) {
	p.t.Helper()
	p.toM = p.toM[len(b):]
	from := 0
	for _, to := range append(stream.Cuts(len(b), []int{p.roll(5000), p.roll(5000)}), len(b)) {
		e := p.m.Hear(p.now, b[from:to])
		if e != api.OK && !(e == api.ErrDead && p.md.Dead()) {
			p.t.Errorf("Hear: %d", e)
		}
		from = to
	}
}

// tend keeps the copy small enough: it rolls and merges it, or goes on with a merge.
func (p *pair) tend() {
	held := p.m.Topic()
	if held.State().Segs > 40 {
		for m := p.merging(); m != nil && !m.Over(); {
			m.Step(p.now)
		}
	}
	switch p.roll(12) {
	case 0:
		held.Roll()
	case 1, 2, 3:
		for m := p.merging(); m != nil && !m.Over() && p.roll(5) > 0; {
			m.Step(p.now)
			p.count["a step of a merge of the copy"]++
		}
	}
}

func (p *pair) merging() *merge.Merge {
	if p.merge == nil || p.merge.Over() {
		p.merge, _ = merge.Start(p.m.Topic())
	}
	return p.merge
}

// act does something.
func (p *pair) act() {
	p.t.Helper()
	switch n := p.roll(100); {
	case n < 35:
		p.write()
	case n < 75:
		p.talk()
	case n < 83:
		if p.m.Commit() == api.OK {
			p.count["committed"]++
		}
	case n < 88:
		p.tend()
	case n < 91:
		p.lose()
		p.count["lost"]++
	case n < 94:
		p.now += int64(p.roll(12))
	case n < 96:
		p.md.Fuse(p.roll(15))
	case n == 96:
		p.bd.Fuse(p.roll(30))
	case n == 97:
		p.openMirror(p.left(p.md))
		p.count["a crash of the mirror"]++
	default:
		p.b.Step(p.now, p.roll(4))
	}
	p.tend()
	if p.md.Dead() {
		p.lose()
		p.openMirror(p.left(p.md))
		p.count["a crash of the mirror"]++
	}
	if p.bd.Dead() {
		p.openBroker(p.left(p.bd))
		p.count["a crash of the broker"]++
	}
	p.count[fmt.Sprint("state ", p.m.State().State)]++
}

// calm lets the source be, and not change any more.
func (p *pair) calm() {
	p.t.Helper()
	p.md.Fuse(-1)
	p.bd.Fuse(-1)
	p.say(api.Request{Op: api.OpCreate, Topic: "t"}) // if there is none
	for others := 0; others < 10; others++ {         // so many other things in a row are done only if no request waits
		did, e := p.b.Step(p.now, api.ClRequest)
		want(p.t, "Step", e, api.OK)
		if did.What == api.DidRequest {
			others = 0
		}
	}
	p.b.Out(p.client, math.MaxInt)
	for p.b.State().Pending > 0 {
		p.b.Step(p.now, api.ClCommit)
	}
}

// settle hands all over that is asked and answered, until there is nothing more; if the mirror has become idle meanwhile, its connection is lost.
func (p *pair) settle() {
	p.t.Helper()
	if p.roll(2) == 0 || p.m.State().State == api.MirIdle {
		p.lose()
	}
	for range 3 {
		quiet := 0
		for i := 0; quiet < 20; i++ {
			if i > 20000 {
				p.t.Fatalf("it does not come to an end: %+v", p.m.State())
			}
			p.talk()
			did, _ := p.b.Step(p.now, p.roll(4))
			if p.roll(3) == 0 {
				p.m.Commit()
			}
			p.tend()
			p.take(math.MaxInt)
			if quiet++; did.What != api.DidNothing || len(p.toM) > 0 || len(p.toB) > 0 {
				quiet = 0
			}
			p.hear(p.toM)
		}
		if p.m.State().State == api.MirTail {
			return
		}
		p.lose() // the source was dropped, and is there anew
	}
}

// source is the source's records that are left, and where it ends.
func (p *pair) source() ([]api.Record, int64) {
	p.t.Helper()
	recs, e := p.b.Records("t")
	want(p.t, "Records", e, api.OK)
	for _, info := range p.b.Topics() {
		if info.Name == "t" {
			return recs, info.Next
		}
	}
	p.t.Fatal("no source")
	return nil, 0
}

// wantFollowed fails unless the mirror has the source's keys and values, and stands at its end; so what is opened behind a crash.
func (p *pair) wantFollowed(what string) {
	p.t.Helper()
	want(p.t, what+": Commit", p.m.Commit(), api.OK)
	recs, end := p.source()
	all := map[string]string{}
	for _, r := range recs {
		if delete(all, r.Key); r.Kind == api.KValue {
			all[r.Key] = r.Value
		}
	}
	again, e := mirror.Open(loaded(p.t, p.md.Crash(nil)), "t", copyId, p.limit, p.now)
	want(p.t, what+": Open", e, api.OK)
	for name, m := range map[string]*mirror.Mirror{"it": p.m, "opened again": again} {
		got := map[string]string{}
		for _, x := range m.Pairs() {
			got[x.Key] = x.Value
		}
		want(p.t, what+": "+name+": Pairs", fmt.Sprint(got), fmt.Sprint(all))
		want(p.t, what+": "+name+": the position", m.State().Position, end)
	}
	want(p.t, what+": State", p.m.State(), api.MirState{State: api.MirTail, Position: end, Keys: len(all)})
}

// P9, 22.9: whatever became of both before, behind a quiet end the mirror has the source's keys and values.
func TestMirrorsFollow(t *testing.T) {
	count := map[string]int{}
	for seed := range uint64(200) {
		p := newPair(t, seed, count)
		for round := range 4 {
			what := fmt.Sprintf("seed %d, round %d", seed, round)
			for range 40 + p.roll(250) {
				p.act()
			}
			p.calm()
			p.settle()
			p.wantFollowed(what)
			if t.Failed() {
				t.FailNow()
			}
			count["followed"]++
		}
	}
	for what, least := range map[string]int{
		"followed": 800, "code 2": 200, "code 6": 200, "code 11": 100, "asked 10": 5000, "asked 9": 1000, "state 0": 1000, "state 1": 1000, "state 2": 5000, "dropped": 100, "committed": 1000,
		"a crash of the mirror": 500, "a crash of the broker": 200, "lost": 500, "a step of a merge of the copy": 1000, "little power in an Open": 200,
	} {
		if count[what] < least {
			t.Errorf("%s: %d times", what, count[what])
		}
	}
	want(t, "a broker's bytes never break it", count["state 3"], 0)
	t.Log(count)
}
