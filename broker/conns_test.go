package broker_test

import (
	"bytes"
	"fmt"
	"math"
	"testing"

	"chronicle/api"
	"chronicle/broker"
	"chronicle/simfs"
)

// noConns is numbers that no connection has.
func noConns() []int { return []int{math.MinInt, -1, 0, 17, 99, math.MaxInt} }

// 20.6
func TestConnect(t *testing.T) {
	k := store(t, usual())
	for i := range maxConns {
		want(t, "Connect", k.connect(), i+1)
		want(t, "connections", k.b.State().Conns, i+1)
	}
	wantFull := func() {
		t.Helper()
		for range 3 {
			n, e := k.b.Connect()
			want(t, "one more", n, 0)
			want(t, "one more", e, api.ErrConns)
		}
		want(t, "connections", k.b.State().Conns, maxConns)
	}
	wantFull()
	for i, conn := range []int{3, 16, 1, 17, 18} {
		want(t, "Shut", k.b.Shut(conn), api.OK)
		want(t, "a number is not given again", k.connect(), 17+i)
		wantFull()
	}
	for conn := range 22 {
		open := conn > 1 && conn < 16 && conn != 3 || conn > 18
		_, e := k.b.Out(conn, 1)
		want(t, fmt.Sprint("open: ", conn), e == api.OK, open)
	}
	// What is new has nothing in it.
	k.hear(21)
	k.rest()
}

// 20.6: numbers are a broker's own.
func TestNumbersBeginAnew(t *testing.T) {
	k := served(t, 3)
	want(t, "Shut", k.b.Shut(3), api.OK)
	want(t, "the next one", k.connect(), 4)
	again := over(t, k.d, usual())
	want(t, "another broker's first", again.connect(), 1)
}

// 20.7
func TestShut(t *testing.T) {
	k := served(t, 2, "t")
	for _, conn := range append(noConns(), 3) {
		want(t, fmt.Sprint("Shut of ", conn), k.b.Shut(conn), api.ErrNoConn)
	}
	k.wantState("nothing is shut", 2, 1, 0, 0)
	want(t, "Shut", k.b.Shut(2), api.OK)
	k.wantState("one is shut", 1, 1, 0, 0)
	want(t, "once more", k.b.Shut(2), api.ErrNoConn)
	n, e := k.b.Feed(2, frame(t, ping()))
	want(t, "Feed", n, 0)
	want(t, "Feed", e, api.ErrNoConn)
	b, e := k.b.Out(2, 9)
	want(t, "Out", len(b), 0)
	want(t, "Out", e, api.ErrNoConn)
	want(t, "the last one", k.b.Shut(1), api.OK)
	k.rest()
}

// 20.7: requests that wait are not served; what was appended stays, and is committed.
func TestShutWithWork(t *testing.T) {
	k := served(t, 3, "t")
	k.write(2, 1, "t", "a", "1")
	k.say(2, put("t", "b", "2"), put("t", "c", "3"))
	k.say(3, ping())
	want(t, "Shut", k.b.Shut(2), api.OK)
	k.step(api.ClRequest, did(3, 0, api.OpPing, api.CodeOK))
	k.commit(1)
	k.rest()
	k.hear(3, answer(0, api.OpPing, api.CodeOK))
	k.wantRecords("shut", "t", value(0, "a", "1"))
}

// 20.7: answers that are owed to who has gone are sent to nobody, and readers of his read no more.
func TestShutWithAnswersOwed(t *testing.T) {
	k := served(t, 2, "t")
	k.write(2, 1, "t", "a", "1")
	k.write(1, 1, "t", "b", "2")
	k.ask(2, subscribe("t", 0), did(2, 1, api.OpSubscribe, api.CodeOK))
	want(t, "Shut", k.b.Shut(2), api.OK)
	k.wantState("shut", 1, 1, 2, 0)
	k.commit(1)
	k.hear(1, api.Response{Op: api.OpPut, Offset: 1})
	k.wantRecords("shut", "t", value(0, "a", "1"), value(1, "b", "2"))
	k.rest()
	want(t, "another one", k.connect(), 3)
	k.hear(3)
}

// 20.8
func TestFeed(t *testing.T) {
	k := served(t, 2)
	for _, conn := range append(noConns(), 3) {
		n, e := k.b.Feed(conn, frame(t, ping()))
		want(t, fmt.Sprint("Feed of ", conn), n, 0)
		want(t, fmt.Sprint("Feed of ", conn), e, api.ErrNoConn)
	}
	feed := func(what string, b []byte, wanted int) {
		t.Helper()
		n, e := k.b.Feed(1, b)
		want(t, what, n, wanted)
		want(t, what, e, api.OK)
	}
	feed("nil", nil, 0)
	feed("nothing", []byte{}, 0)
	k.rest()
	var three []byte
	for i := range 3 {
		three = append(three, frame(t, id(uint32(i), ping()))...)
	}
	feed("three at once", three, 3)
	feed("half of one", three[:5], 0)
	feed("the other half, and some of the next", three[5:22], 1)
	for i, n := range []uint32{0, 1, 2, 0} {
		k.step(0, did(1, 0, api.OpPing, api.CodeOK))
		k.hear(1, answer(n, api.OpPing, api.CodeOK))
		if i == 2 {
			k.hear(2)
		}
	}
	k.rest()
	feed("the rest of two", three[22:], 2)
	k.step(0, did(1, 0, api.OpPing, api.CodeOK))
	k.step(0, did(1, 0, api.OpPing, api.CodeOK))
	k.hear(1, answer(1, api.OpPing, api.CodeOK), answer(2, api.OpPing, api.CodeOK))
	k.rest()
}

// 20.8, P1: malformed frames are answered at once, and change nothing.
func TestFeedOfMalformedFrames(t *testing.T) {
	k := served(t, 1, "t")
	good := frame(t, id(5, put("t", "k", "v")))
	spoilt := bytes.Clone(good)
	spoilt[len(spoilt)-1] ^= 1
	complaint := answer(0, api.OpPing, api.CodeBadRequest)
	undone(t, "malformed frames", k.d, func() {
		n, e := k.b.Feed(1, bytes.Join([][]byte{spoilt, frames(t, answer(1, api.OpPing, 0)), spoilt}, nil))
		want(t, "Feed", n, 0)
		want(t, "Feed", e, api.OK)
		k.rest()
	})
	k.hear(1, complaint, complaint, complaint)
	n, e := k.b.Feed(1, bytes.Join([][]byte{spoilt, good, spoilt, {0}, good}, nil))
	want(t, "one good one", n, 1)
	want(t, "one good one", e, api.OK)
	k.hear(1, complaint, complaint, complaint)
	n, e = k.b.Feed(1, good)
	want(t, "the stream is given up", n, 0)
	want(t, "the stream is given up", e, api.OK)
	k.hear(1)
	k.step(0, did(1, 1, api.OpPut, -1))
	k.commit(1)
	k.hear(1, api.Response{Id: 5, Op: api.OpPut})
	k.wantRecords("one good one", "t", value(0, "k", "v"))
}

// 20.8: more than the inbox takes.
func TestFeedOfTooMany(t *testing.T) {
	k := served(t, 2)
	var b []byte
	var refused []api.Response
	for i := range maxInbox + 2 {
		b = append(b, frame(t, id(uint32(i), ping()))...)
		if i >= maxInbox {
			refused = append(refused, answer(uint32(i), api.OpPing, api.CodeTooMany))
		}
	}
	n, e := k.b.Feed(1, b)
	want(t, "Feed", n, maxInbox)
	want(t, "Feed", e, api.OK)
	k.hear(1, refused...)
	n, _ = k.b.Feed(2, b)
	want(t, "another's inbox", n, maxInbox)
	seen := map[int]int{}
	for range 2 * maxInbox {
		d, _ := k.b.Step(0, 0)
		seen[d.Conn]++
	}
	want(t, "served", seen[1], maxInbox)
	want(t, "served", seen[2], maxInbox)
	k.rest()
}

// 20.9
func TestOut(t *testing.T) {
	k := served(t, 2)
	k.ask(1, id(1, ping()), did(1, 0, api.OpPing, 0))
	k.ask(1, id(2, ping()), did(1, 0, api.OpPing, 0))
	all := frames(t, answer(1, api.OpPing, 0), answer(2, api.OpPing, 0))
	for _, conn := range append(noConns(), 3) {
		for _, n := range []int{-1, 0, 9} {
			b, e := k.b.Out(conn, n)
			want(t, fmt.Sprint("Out of ", conn), len(b), 0)
			want(t, fmt.Sprint("Out of ", conn), e, api.ErrNoConn)
		}
	}
	for _, n := range []int{math.MinInt, -2, -1} {
		b, e := k.b.Out(1, n)
		want(t, fmt.Sprintf("Out(1, %d)", n), len(b), 0)
		want(t, fmt.Sprintf("Out(1, %d)", n), e, api.ErrArg)
	}
	taken := 0
	for _, n := range []int{0, 1, 0, 2, 5, len(all) - 9, 7, 1, 0} {
		b, e := k.b.Out(1, n)
		wanted := all[taken:min(taken+n, len(all))]
		if e != api.OK || !bytes.Equal(b, wanted) {
			t.Errorf("Out(1, %d): % x, %d, want % x", n, b, e, wanted)
		}
		taken += len(wanted)
	}
	want(t, "all is taken", taken, len(all))
	k.ask(1, id(3, ping()), did(1, 0, api.OpPing, 0))
	b, e := k.b.Out(1, math.MaxInt)
	if e != api.OK || !bytes.Equal(b, frames(t, answer(3, api.OpPing, 0))) {
		t.Errorf("more than all: % x, %d", b, e)
	}
	k.hear(2)
}

// R1: a nil broker, and one that nobody opened.
func TestNil(t *testing.T) {
	for what, b := range map[string]*broker.Broker{"nil": nil, "zero": {}} {
		n, e := b.Connect()
		want(t, what+": Connect", n, 0)
		want(t, what+": Connect", e, api.ErrNil)
		for _, conn := range []int{-1, 0, 1} {
			want(t, what+": Shut", b.Shut(conn), api.ErrNil)
			n, e := b.Feed(conn, frame(t, ping()))
			want(t, what+": Feed", n, 0)
			want(t, what+": Feed", e, api.ErrNil)
			for _, n := range []int{-1, 0, 1} {
				out, e := b.Out(conn, n)
				want(t, what+": Out", len(out), 0)
				want(t, what+": Out", e, api.ErrNil)
			}
		}
		for now := range times() {
			d, e := b.Step(now, 0)
			want(t, what+": Step", d, api.Did{})
			want(t, what+": Step", e, api.ErrNil)
		}
		want(t, what+": State", b.State(), api.BrokerState{})
		want(t, what+": Topics", len(b.Topics()), 0)
		recs, e := b.Records("t")
		want(t, what+": Records", len(recs), 0)
		want(t, what+": Records", e, api.ErrNil)
	}
}

// throttled is a config that gives a connection some requests at once, and then one in so many ticks.
func throttled(burst, ticks int64) api.Config {
	cfg := usual()
	cfg.Num, cfg.Den, cfg.Burst = 1, ticks, burst
	return cfg
}

// 20.6, 20.11: each connection has a bucket of its own, which is full when it begins.
func TestThrottled(t *testing.T) {
	k := store(t, throttled(2, 10))
	k.connect()
	slow := func(conn int, wait int64) {
		t.Helper()
		undone(t, "throttled", k.d, func() {
			k.answered(conn, 0, create("t"), api.Response{Code: api.CodeThrottled, Number: wait})
		})
	}
	k.answered(1, 0, ping(), api.Response{})
	k.answered(1, 0, ping(), api.Response{})
	slow(1, 10)
	k.connect()
	k.answered(2, 0, ping(), api.Response{})
	k.now = 3
	slow(1, 7)
	slow(1, 7)
	k.now = 9
	slow(1, 1)
	k.now = 0 // the clock does not go back
	slow(1, 1)
	k.now = 10
	k.answered(1, 1, create("t"), api.Response{Number: 1})
	slow(1, 10)
	k.answered(2, 1, stat("t"), api.Response{})
	k.answered(2, 0, ping(), api.Response{}) // it took one at 0, which has come back
	slow(2, 10)
	// One that begins late has no more than its burst.
	k.now = 1000
	want(t, "Connect", k.connect(), 3)
	for range 2 {
		k.answered(3, 0, ping(), api.Response{})
	}
	slow(3, 10)
	// What is throttled has no topic, whatever it asks for.
	for _, r := range []api.Request{stat("t"), put("t", "k", "v"), drop("t"), create("u"), {Op: api.OpList}, join("g"), replay("t", 0)} {
		k.answered(3, 0, r, api.Response{Code: api.CodeThrottled, Number: 10})
	}
	k.now = lastTime
	k.answered(3, 0, ping(), api.Response{})
}

// 20.11: parts of tokens are not lost.
func TestThrottledByParts(t *testing.T) {
	cfg := usual()
	cfg.Num, cfg.Den, cfg.Burst = 2, 3, 2
	d, _ := simfs.New(wide)
	want(t, "Format", broker.Format(d, cfg, 0), api.OK)
	k := over(t, d, cfg)
	k.connect()
	taken := 0
	for now := range int64(31) {
		k.now = now
		k.say(1, ping())
		d, _ := k.b.Step(now, 0)
		if d.Code == api.CodeOK {
			taken++
		}
	}
	want(t, "served in 30 ticks", taken, 2+20)
}
