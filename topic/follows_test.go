package topic_test

import (
	"fmt"
	"slices"
	"testing"

	"chronicle/api"
	"chronicle/probe"
	"chronicle/simfs"
	"chronicle/topic"
)

// 10.15
func TestAllOfTheLogIsLeft(t *testing.T) {
	d, p := madeWith(t, 300, 3)
	var log []api.Record
	for i, x := range probe.Noise(11, 150) {
		r := at(int64(7+i), put(int64(i), string([]byte{byte('a' + x>>9%7)}), probe.Text(x, int(x>>20%60))))
		if x>>30%4 == 0 {
			r.Kind, r.Value = api.KTombstone, ""
		}
		log = append(log, r)
		lay(t, p, r)
		if x>>40%4 == 0 {
			commit(t, p)
		}
		if x>>44%16 == 0 {
			roll(t, p)
		}
		if x>>50%16 == 0 {
			commit(t, p)
			p = opened(t, d)
		}
		if i%5 > 0 {
			continue
		}
		l := log[:p.State().Committed]
		wantRecords(t, "the log", p, l...)
		for o := range len(l) + 1 {
			wantFrom(t, "from there on", p, int64(o), 999, 99999, l[o:], int64(len(l)), api.OK)
		}
		last := map[string]api.Record{}
		for _, r := range l {
			last[r.Key] = r
		}
		for _, r := range last {
			if r.Kind == api.KTombstone {
				wantGet(t, "deleted", p, r.Key, api.Record{})
			} else {
				wantGet(t, "the last one", p, r.Key, r)
			}
		}
	}
	if p.State().Segs < 10 {
		t.Errorf("only %d segments", p.State().Segs)
	}
}

// producer is a client that numbers its records, and sends one again till it is told that it is committed.
type producer struct {
	pid  int64
	sent []int64 // of each number the offset that it was told last
	firm int     // how many are known to be committed
}

func (c *producer) write(seq int) api.Write {
	return api.Write{Key: fmt.Sprint("k", c.pid), Value: fmt.Sprintf("%d/%d", c.pid, seq), Pid: c.pid, Seq: int64(seq)}
}

// send hands in a number that need not be the next one.
func (c *producer) send(t *testing.T, p *topic.Topic, seq int) {
	t.Helper()
	off, again, e := p.Append(0, c.write(seq))
	switch {
	case seq == len(c.sent)+1 && e == api.OK && !again:
		c.sent = append(c.sent, off)
	case seq == len(c.sent) && e == api.OK && again && off == c.sent[seq-1]:
	case seq < len(c.sent) && e == api.ErrStale:
	case seq > len(c.sent)+1 && e == api.ErrSeq:
	case e == api.ErrDead && p.Disk().Dead():
	default:
		t.Fatalf("%d/%d behind %d: %d, %t, %d", c.pid, seq, len(c.sent), off, again, e)
	}
}

// learn lets a producer see how much of what it sent is in the log; what was committed has to be there.
func (c *producer) learn(t *testing.T, recs []api.Record) {
	t.Helper()
	n := 0
	for _, r := range recs {
		if r.Pid == c.pid {
			n++
			want(t, fmt.Sprintf("%d: the number", c.pid), r.Seq, int64(n))
			want(t, fmt.Sprintf("%d: the value", c.pid), r.Value, c.write(n).Value)
			if n <= len(c.sent) {
				want(t, fmt.Sprintf("%d/%d: the offset", c.pid, n), r.Offset, c.sent[n-1])
			}
		}
	}
	if n < c.firm || n > len(c.sent) {
		t.Fatalf("%d: %d are there, %d were sent, %d committed", c.pid, n, len(c.sent), c.firm)
	}
	c.sent = c.sent[:n]
}

// 10.17
func TestExactlyOnce(t *testing.T) {
	crashes, repeats := 0, 0
	for seed := range uint64(60) {
		d, p := made(t)
		clients := []*producer{{pid: 1}, {pid: 7}, {pid: 1<<32 - 1}}
		for i, x := range probe.Noise(seed+3, 150) {
			x >>= 8
			if i%20 == 5 {
				d.Fuse(int(x >> 8 % 30))
			}
			c := clients[x%3]
			switch x >> 4 % 8 {
			case 0:
				if p.Commit() == api.OK {
					for _, c := range clients {
						c.firm = len(c.sent)
					}
				}
			case 1:
				p.Roll()
			case 2:
				c.send(t, p, 1+int(x>>20%uint64(len(c.sent)+3)))
			case 3:
				if len(c.sent) > 0 {
					c.send(t, p, len(c.sent))
					repeats++
				}
			default:
				c.send(t, p, len(c.sent)+1)
			}
			if d.Dead() {
				picks := []int{int(x >> 8 % 9), int(x >> 12 % 9), int(x >> 16 % 9), int(x >> 20 % 50), int(x >> 24 % 50), int(x >> 28 % 9), int(x >> 32 % 9)}
				d, _ = simfs.Load(d.Crash(picks), 1<<20)
				p = opened(t, d)
				recs, _ := p.Records()
				for _, c := range clients {
					c.learn(t, recs)
				}
				crashes++
			}
		}
		d.Fuse(-1)
		commit(t, p)
		recs, e := p.Records()
		want(t, "Records", e, api.OK)
		for _, c := range clients {
			sent := slices.Clone(c.sent)
			c.learn(t, recs)
			wantList(t, "all is there", c.sent, sent)
		}
	}
	if crashes < 200 || repeats < 500 {
		t.Errorf("%d crashes, %d repetitions", crashes, repeats)
	}
}

// A number is known over merges too, though its record is no more.
func TestNumbersOutliveMerges(t *testing.T) {
	d, p := readyToMerge(t)
	want(t, "Install", p.Install([]int{1, 2}, nil, 0), api.OK)
	for range 2 {
		wantAppend(t, "again", p, 0, api.Write{Key: "x", Pid: 9, Seq: 2}, 5, true, api.OK)
		wantAppend(t, "stale", p, 0, api.Write{Key: "x", Pid: 9, Seq: 1}, 0, false, api.ErrStale)
		commit(t, p)
		p = opened(t, d)
	}
	d, p = readyToMerge(t)
	want(t, "Install", p.Install([]int{1, 2}, nil, 0), api.OK)
	left, _ := simfs.Load(d.Crash(nil), 1<<20) // what was pending is not there
	p = opened(t, left)
	wantAppend(t, "again", p, 0, api.Write{Key: "x", Pid: 9, Seq: 1}, 1, true, api.OK)
	wantAppend(t, "fresh", p, 0, api.Write{Key: "x", Pid: 9, Seq: 2}, 5, false, api.OK)
}

// 10.16, over anything that is written: each refusal has its reason.
func TestRefusalsHaveReasons(t *testing.T) {
	count := map[api.Errno]int{}
	for seed := range uint64(12) {
		d, p := madeWith(t, 256, int64(seed%3*40))
		for i, x := range probe.Noise(seed+77, 400) {
			if x>>50%16 == 0 {
				d.SetQuota(d.Used() + []int{3000, 4200, 4400, 1 << 20}[x>>40%4])
			}
			w := writing(sized(0, 15+int(x>>8%200)))
			w.Key = fmt.Sprint("k", x>>20%(90+30*seed))
			room := d.Quota() - d.Used()
			size := 0 // of the record, as it would be
			_, _, e := p.Append(int64(i), w)
			r := at(p.Tick(0), put(p.State().Next, w.Key, w.Value))
			size = sizes([]api.Record{r})
			count[e]++
			s := p.State()
			switch {
			case e == api.OK:
			case e == api.ErrSpace && room-size < 4096:
			case e == api.ErrSegs && s.Segs == 64 && s.Dead > 0:
			case e == api.ErrLive && s.Segs == 64 && s.Dead == 0:
			default:
				t.Fatalf("Append: %d with room for %d of %d, %v", e, room, size, s)
			}
		}
	}
	for _, e := range []api.Errno{api.OK, api.ErrSpace, api.ErrSegs} {
		if count[e] < 50 {
			t.Errorf("%v", count)
		}
	}
}

// 10.11, 11.1: what is kept by Needed is enough: Get and Keys answer as before, whatever crashes lie between.
func TestMergesByHand(t *testing.T) {
	installs, crashes := 0, 0
	for seed := range uint64(40) {
		d, p := madeWith(t, 256, 100)
		last := map[string]api.Record{}
		next := int64(0)
		for i, x := range probe.Noise(seed+900, 80) {
			x >>= 5
			r := at(int64(7+i), put(next, string([]byte{byte('a' + x%5)}), probe.Text(x, int(x>>8%40))))
			if x>>20%3 == 0 {
				r.Kind, r.Value = api.KTombstone, ""
			}
			lay(t, p, r)
			commit(t, p)
			last[r.Key], next = r, next+1
			if x>>24%6 > 0 || len(p.Sealed()) == 0 {
				continue
			}
			if x>>30%2 == 0 {
				d.Fuse(int(x >> 34 % 14))
				crashes++
			}
			if mergeByHand(t, d, p) == api.OK {
				installs++
			}
			if d.Dead() {
				d, _ = simfs.Load(d.Crash([]int{int(x >> 8 % 7), int(x >> 12 % 5), int(x >> 16 % 5), int(x >> 20 % 50)}), 1<<20)
				p = opened(t, d)
			}
			d.Fuse(-1)
			var live []string
			for key, r := range last {
				if r.Kind == api.KTombstone {
					r = api.Record{}
				} else {
					live = append(live, key)
				}
				wantGet(t, "behind a merge", p, key, r)
			}
			slices.Sort(live)
			wantKeys(t, "behind a merge", p, "", "", 9, false, live...)
			want(t, "Next", p.State().Next, next)
		}
	}
	if installs < 100 || crashes < 100 {
		t.Errorf("%d, %d", installs, crashes)
	}
}

// mergeByHand lays what is needed of all sealed segments into one new one, as far as the power goes.
func mergeByHand(t *testing.T, d *simfs.Disk, p *topic.Topic) api.Errno {
	t.Helper()
	var kept []api.Record
	olds := p.Sealed()
	now := p.Tick(0)
	for _, seg := range olds {
		for at := 0; at >= 0; {
			r, next, e := p.Take(seg, at)
			if e == api.ErrPlace && at == 0 {
				break // there is none
			}
			if e != api.OK {
				t.Fatalf("Take(%d, %d): %d", seg, at, e)
			}
			if p.Needed(now, r) {
				kept = append(kept, r)
			}
			at = next
		}
	}
	n := numbered(t, p)
	name := segName(3, n)
	d.Create(name)
	d.Append(name, []byte(shelf{n, 0, kept, true}.bytes(3)))
	d.Sync(name)
	e := p.Install(olds, []int{n}, 0)
	if e == api.OK {
		for _, seg := range olds {
			d.Remove(hintName(3, seg))
			d.Remove(segName(3, seg))
		}
		d.SyncDir()
	}
	return e
}
