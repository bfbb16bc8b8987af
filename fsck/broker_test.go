package fsck_test

import (
	"fmt"
	"testing"

	"chronicle/api"
	"chronicle/broker"
	"chronicle/fsck"
	"chronicle/probe"
	"chronicle/simfs"
	"chronicle/wire"
)

// served is a store that a broker serves, over crashes.
type served struct {
	t    *testing.T
	cfg  api.Config
	dice []uint64
	now  int64
}

func (s *served) roll(n int) int {
	x := s.dice[0]
	s.dice = s.dice[1:]
	return int(x >> 20 % uint64(n))
}

// request is something that is asked.
func (s *served) request(id int) api.Request {
	name, key := fmt.Sprint("n", s.roll(4)), fmt.Sprint("k", s.roll(5))
	switch s.roll(12) {
	case 0, 1:
		return api.Request{Id: uint32(id), Op: api.OpCreate, Topic: name}
	case 2:
		return api.Request{Id: uint32(id), Op: api.OpDrop, Topic: fmt.Sprint("n", s.roll(9))}
	case 3:
		return api.Request{Id: uint32(id), Op: api.OpJoin, Key: "g"}
	case 4:
		return api.Request{Id: uint32(id), Op: api.OpCommit, Key: "g", Topic: name, Number: int64(s.roll(3))}
	case 5, 6:
		return api.Request{Id: uint32(id), Op: api.OpDelete, Topic: name, Key: key}
	}
	return api.Request{Id: uint32(id), Op: api.OpPut, Topic: name, Key: key, Value: probe.Text(uint64(s.roll(99)), s.roll(80))}
}

// serve lets a broker serve, as long as the power lasts.
func (s *served) serve(b *broker.Broker) {
	conn, _ := b.Connect()
	for i := range 150 {
		frame, e := wire.EncodeRequest(s.request(i))
		want(s.t, "EncodeRequest", e, api.OK)
		b.Feed(conn, frame)
		for range 1 + s.roll(3) {
			b.Step(s.now, s.roll(4))
		}
		b.Out(conn, wide)
		s.now += int64(s.roll(3))
	}
}

// left is what a crash leaves, by chance.
func (s *served) left(d *simfs.Disk) []api.File {
	var picks []int
	for range 50 {
		picks = append(picks, s.roll(1000))
	}
	return d.Crash(picks[:s.roll(50)])
}

// P10, 21.4: behind each opening of a store by a broker nothing is wrong; and what is made anew of it a broker opens too.
func TestNothingIsWrongBehindABroker(t *testing.T) {
	opened, died := 0, 0
	for seed := range uint64(30) {
		s := &served{t: t, cfg: api.Config{Limit: 256, Horizon: 9, Share: 30}, dice: probe.Noise(seed+1, 40000)}
		d := holding(t, nil)
		for d.Fuse(s.roll(30)); broker.Format(d, s.cfg, 0) == api.ErrDead; { // a Format that was broken off is done again
			d = loaded(t, s.left(d))
		}
		image := d.Image()
		for round := range 8 {
			what := fmt.Sprintf("seed %d, round %d", seed, round)
			d := loaded(t, image)
			if s.roll(3) == 0 {
				d.Fuse(s.roll(12))
			}
			b, e := broker.Open(d, s.cfg, s.now)
			if d.Dead() {
				image = s.left(d)
				died++
				continue
			}
			want(t, what+": Open", e, api.OK)
			wantList(t, what+": Check", checked(t, what, d), nil)
			s.wantRebuilt(what, d, b)
			opened++
			d.Fuse(s.roll(400))
			s.serve(b)
			image = s.left(d)
			if t.Failed() {
				t.FailNow()
			}
		}
	}
	want(t, "often", opened > 150 && died > 20, true)
}

// wantRebuilt fails unless a broker opens what is made anew of a store, and has its topics.
func (s *served) wantRebuilt(what string, d *simfs.Disk, b *broker.Broker) {
	s.t.Helper()
	to := holding(s.t, nil)
	_, e := fsck.Rebuild(d, to, s.cfg)
	want(s.t, what+": Rebuild", e, api.OK)
	again, e := broker.Open(to, s.cfg, s.now)
	want(s.t, what+": Open of what is made anew", e, api.OK)
	for i, info := range b.Topics() {
		other := again.Topics()[i]
		other.Segs = info.Segs // they may be fewer
		want(s.t, what+": a topic", other, info)
		recs, _ := b.Records(info.Name)
		same, _ := again.Records(info.Name)
		wantRecords(s.t, what+": "+info.Name, same, recs)
	}
	want(s.t, what+": topics", len(again.Topics()), len(b.Topics()))
}
