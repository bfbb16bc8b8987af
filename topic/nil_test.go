package topic_test

import (
	"fmt"
	"testing"

	"chronicle/api"
	"chronicle/probe"
	"chronicle/simfs"
	"chronicle/topic"
)

// wantNothing fails unless each call of a topic is refused so, with zeros beside.
func wantNothing(t *testing.T, what string, p *topic.Topic, errno api.Errno) {
	t.Helper()
	for _, now := range []int64{-1, 0, 9} {
		for _, w := range []api.Write{{}, {Key: "a"}, {Key: "a", Pid: 9, Seq: 1}} {
			wantAppend(t, what, p, now, w, 0, false, errno)
		}
	}
	want(t, what+": Commit", p.Commit(), errno)
	for _, key := range []string{"", "a"} {
		r, ok, e := p.Get(key)
		want(t, what+": Get", fmt.Sprint(r, ok, e), fmt.Sprint(api.Record{}, false, errno))
	}
	for _, offset := range []int64{-1, 0, 1} {
		wantFrom(t, what, p, offset, 1, 1, nil, 0, errno)
		wantFrom(t, what, p, offset, 0, 0, nil, 0, errno)
	}
	wantKeys(t, what, p, "", "", 9, false)
	want(t, what+": Roll", p.Roll(), errno)
	recs, e := p.Records()
	want(t, what+": Records", fmt.Sprint(len(recs), e), fmt.Sprint(0, errno))
	want(t, what+": Drop", p.Drop(), errno)
	wantList(t, what+": Sealed", p.Sealed(), nil)
	wantList(t, what+": Stats", p.Stats(), nil)
	for _, seg := range []int{0, 1, 2} {
		wantTake(t, what, p, seg, 0, api.Record{}, 0, errno)
		wantTake(t, what, p, seg, 21, api.Record{}, 0, errno)
	}
	for _, r := range []api.Record{{}, put(0, "a", "1"), put(1, "b", "2")} {
		want(t, what+": Needed", p.Needed(0, r), false)
	}
	want(t, what+": Hold", p.Hold(), errno)
	p.Release()
	want(t, what+": Hold", p.Hold(), errno)
	n, e := p.NewSeg()
	want(t, what+": NewSeg", fmt.Sprint(n, e), fmt.Sprint(0, errno))
	for _, news := range [][]int{nil, {2}, {3}} {
		want(t, what+": Install", p.Install([]int{1}, news, 0), errno)
		want(t, what+": Install", p.Install(nil, news, -1), errno)
	}
}

// R1; 10.3 to 10.12 of a nil topic, and of one that was not made by Create or Open.
func TestNilTopics(t *testing.T) {
	for what, p := range map[string]*topic.Topic{"nil": nil, "zero": {}} {
		for range 2 {
			wantNothing(t, what, p, api.ErrNil)
			want(t, what+": State", p.State(), api.TopicState{})
			want(t, what+": Id", p.Id(), 0)
			want(t, what+": Disk", p.Disk(), (*simfs.Disk)(nil))
			want(t, what+": Limit", p.Limit(), 0)
			want(t, what+": Horizon", p.Horizon(), 0)
			for _, now := range []int64{-1, 0, 5, lastTime} {
				want(t, what+": Tick", p.Tick(now), 0)
			}
		}
	}
}

// wantGone fails unless a topic is dropped.
func wantGone(t *testing.T, what string, d *simfs.Disk, p *topic.Topic) {
	t.Helper()
	for range 2 {
		clock := p.Tick(-1)
		image, ops := probe.Key(d.Image()), d.Ops()
		wantNothing(t, what, p, api.ErrGone)
		want(t, what+": State", p.State(), api.TopicState{Id: 3})
		want(t, what+": Id", p.Id(), 3)
		want(t, what+": Disk", p.Disk(), d)
		want(t, what+": Limit", p.Limit(), 256)
		want(t, what+": Horizon", p.Horizon(), 100)
		want(t, what+": Tick", p.Tick(0), clock)
		want(t, what+": Tick", p.Tick(clock+1), clock+1)
		want(t, what+": the disk is as it was", probe.Key(d.Image()) == image && d.Ops() == ops, true)
	}
}

// 10.8, and what a dropped topic answers.
func TestDrop(t *testing.T) {
	for what, prepare := range map[string]func(*simfs.Disk, *topic.Topic){
		"a new one": func(*simfs.Disk, *topic.Topic) {},
		"records": func(d *simfs.Disk, p *topic.Topic) {
			lay(t, p, put(0, "a", "1"))
			commit(t, p)
			lay(t, p, put(1, "b", "2"))
		},
		"segments": func(d *simfs.Disk, p *topic.Topic) {
			lay(t, p, put(0, "a", "1"))
			roll(t, p)
			lay(t, p, put(1, "b", "2"))
		},
		"held":         func(d *simfs.Disk, p *topic.Topic) { p.Hold(); numbered(t, p) },
		"without room": func(d *simfs.Disk, p *topic.Topic) { lay(t, p, put(0, "a", "1")); d.SetQuota(0); p.Roll() },
		"a mess": func(d *simfs.Disk, p *topic.Topic) {
			for name := range mess() {
				d.Create(name)
			}
		},
	} {
		for _, f := range []files{nil, others()} {
			d := holding(t, f)
			p, _ := topic.Create(d, 3, 256, 100, 7)
			prepare(d, p)
			own, ops := len(d.Image())-len(f), d.Ops()
			want(t, what+": Drop", p.Drop(), api.OK)
			want(t, what+": operations", d.Ops(), ops+own+1)
			wantFiles(t, what, d.Image(), f)
			wantFiles(t, what+": durable", d.Crash(nil), f)
			wantGone(t, what, d, p)
			q, e := topic.Open(d, 3, 256, 100, 7)
			wantRefused(t, what+": Open", q, e, api.ErrTopic)
		}
	}
}

// The topic 0 has its files, and no others that say 0.
func TestDropOfTheTopic0(t *testing.T) {
	f := files{"catalog": "C", "catalog.tmp": "", "x": "", "t0.0.seg": "", "t1.man": ""}
	d := holding(t, f)
	p, e := topic.Create(d, 0, 256, 100, 7)
	want(t, "Create", e, api.OK)
	want(t, "Drop", p.Drop(), api.OK)
	wantFiles(t, "dropped", d.Image(), f)
}

// Without power the topic is dropped all the same, for whoever holds it; the files go one behind the other.
func TestDropWithoutPower(t *testing.T) {
	for n := range 5 {
		d, p := made(t)
		lay(t, p, put(0, "a", "1"))
		roll(t, p)
		image := d.Image()
		d.Fuse(n)
		want(t, fmt.Sprintf("power for %d: Drop", n), p.Drop(), api.ErrDead)
		wantFiles(t, fmt.Sprintf("power for %d", n), d.Image(), filesOf(image[n:]))
		wantGone(t, "no power", d, p)
	}
	d, p := made(t)
	unpower(t, d)
	want(t, "Drop", p.Drop(), api.ErrDead)
	wantGone(t, "no power", d, p)
}
