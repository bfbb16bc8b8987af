package topic_test

import (
	"fmt"
	"slices"
	"strings"
	"testing"

	"chronicle/api"
	"chronicle/probe"
	"chronicle/simfs"
	"chronicle/topic"
)

// deed is something that is done to a topic.
type deed struct {
	write *api.Write
	roll  bool
	quota int // of the disk from now on, above what is used
}

func writes(recs ...api.Record) []deed {
	var list []deed
	for _, r := range recs {
		w := writing(r)
		list = append(list, deed{write: &w})
	}
	return list
}

// tale is what has been done to a topic.
type tale struct {
	accepted []api.Record
	firm     int // how many of them were committed
}

// live does deeds, as far as the power goes.
func (s *tale) live(d *simfs.Disk, p *topic.Topic, deeds []deed) {
	for _, one := range deeds {
		switch {
		case one.write != nil:
			r := api.Record{Kind: 1, Time: p.Tick(-1), Pid: one.write.Pid, Seq: one.write.Seq, Key: one.write.Key, Value: one.write.Value}
			if one.write.Tombstone {
				r.Kind = 2
			}
			if off, again, e := p.Append(0, *one.write); e == api.OK && !again {
				r.Offset = off
				s.accepted = append(s.accepted, r)
			}
		case one.roll:
			p.Roll()
		case one.quota > 0:
			d.SetQuota(d.Used() + one.quota)
		default:
			p.Commit()
		}
		s.firm = int(p.State().Committed)
	}
}

// stories is deeds of all kinds, of which the power may go in the midst.
func stories() map[string][]deed {
	commit, roll := []deed{{}}, []deed{{roll: true}}
	a, b, c := put(0, "a", "1"), put(0, "bb", "2"), of(9, 1, gone(0, "a"))
	long := writes(sized(0, 90), sized(0, 60), sized(0, 120), sized(0, 80), sized(0, 30), sized(0, 200), sized(0, 15), sized(0, 300), sized(0, 40))
	tight := func(n int) []deed { return []deed{{quota: n}} }
	return map[string][]deed{
		"a write":             writes(a),
		"the chapter's sixth": slices.Concat(writes(a), commit, writes(b)),
		"commits":             slices.Concat(writes(a, b), commit, writes(c), commit, commit, writes(b, b, a), commit, writes(a)),
		"a roll":              slices.Concat(writes(a, b), commit, writes(c), roll, writes(a), commit, roll, writes(b)),
		"rolls":               slices.Concat(writes(a), roll, roll, writes(c), roll, writes(of(9, 1, a), of(9, 2, a)), roll, writes(b), commit),
		"rolls of appends":    slices.Concat(long[:3], commit, long[3:6], long[6:7], commit, long[7:]),
		"refused rolls": slices.Concat(writes(a, b), tight(10), roll, tight(20), roll, tight(45), roll, tight(60), roll,
			tight(5000), writes(c, a), commit, writes(b)),
		"refused rolls of appends": slices.Concat(long[:2], tight(4300), long[2:4], tight(17), roll, tight(38), roll, tight(39), writes(a), tight(9000), long[4:7], commit),
		"a late hint":              slices.Concat(writes(a, b), tight(38), roll, tight(60), roll, tight(9000), roll, writes(c)),
	}
}

// wantPart fails unless a topic is opened over what is left, and its log is a first part of what was accepted, with all that was committed; it tells how long.
func wantPart(t *testing.T, what string, image []api.File, s *tale) int {
	t.Helper()
	d, _ := simfs.Load(image, 1<<20)
	p := opened(t, d)
	recs, e := p.Records()
	n := len(recs)
	if e != api.OK || n < s.firm || n > len(s.accepted) || !slices.Equal(recs, s.accepted[:n]) {
		t.Fatalf("%s: of %s, %d of them committed, is left %s, %d", what, briefs(s.accepted), s.firm, briefs(recs), e)
	}
	state := p.State()
	want(t, what+": Committed", state.Committed, int64(n))
	want(t, what+": Next", state.Next, int64(n))
	want(t, what+": Pending", state.Pending, 0)
	want(t, what+": what is opened is durable", probe.Key(d.Crash(nil)) == probe.Key(d.Image()), true)
	// Offsets go on behind it.
	more := at(max(50, state.Clock), put(int64(n), "more", "x"))
	lay(t, p, more)
	commit(t, p)
	q, _ := simfs.Load(d.Crash(nil), 1<<20)
	wantRecords(t, what+": more", opened(t, q), append(recs, more)...)
	return n
}

// wantNoLess fails unless opening what a crash within Open leaves gives as much.
func wantNoLess(t *testing.T, what string, image []api.File, recs []api.Record) {
	t.Helper()
	for fuse := 0; ; fuse++ {
		d, _ := simfs.Load(image, 1<<20)
		d.Fuse(fuse)
		p, e := topic.Open(d, 3, 256, 100, 0)
		if e == api.OK {
			wantRecords(t, what, p, recs...)
			return
		}
		wantRefused(t, what, p, e, api.ErrDead)
		for _, left := range probe.Leavings(d) {
			again, _ := simfs.Load(left, 1<<20)
			wantRecords(t, fmt.Sprintf("%s: power for %d in Open", what, fuse), opened(t, again), recs...)
		}
	}
}

// 10.14
func TestNothingAcknowledgedIsLost(t *testing.T) {
	lengths := map[string]int{}
	for what, deeds := range stories() {
		for _, began := range []string{"Create", "Open"} {
			for fuse := 0; ; fuse++ {
				d, p := made(t)
				s := &tale{}
				if began == "Open" {
					lay(t, p, put(0, "old", "0"))
					commit(t, p)
					p = opened(t, d)
					s.accepted = []api.Record{put(0, "old", "0")}
				}
				d.Fuse(fuse)
				s.live(d, p, deeds)
				for _, left := range probe.Leavings(d) {
					name := fmt.Sprintf("%s, behind %s, power for %d", what, began, fuse)
					n := wantPart(t, name, left, s)
					lengths[fmt.Sprint(n > s.firm, " ", n < len(s.accepted))]++
					if fuse%8 == 3 && began == "Create" {
						wantNoLess(t, name, left, s.accepted[:n])
					}
				}
				if !d.Dead() {
					break
				}
			}
		}
	}
	for _, kind := range []string{"true true", "true false", "false true", "false false"} {
		if lengths[kind] < 50 {
			t.Errorf("%v", lengths)
		}
	}
}

// 10.1: what a crash in Create leaves.
func TestCreateAndCrashes(t *testing.T) {
	none, empty := 0, 0
	for _, f := range []files{nil, others()} {
		for fuse := range 9 {
			d := holding(t, f)
			d.Fuse(fuse)
			p, e := topic.Create(d, 3, 256, 100, 7)
			want(t, "Create", e == api.OK, fuse == 8)
			want(t, "Create", p != nil, fuse == 8)
			for _, left := range probe.Leavings(d) {
				again, _ := simfs.Load(left, 1<<20)
				q, e2 := topic.Open(again, 3, 256, 100, 0)
				switch {
				case e2 == api.OK:
					want(t, "State", q.State(), api.TopicState{Id: 3, Clock: 7, Segs: 1, Bytes: 21})
					lay(t, q, put(0, "a", "1"))
					empty++
				case e == api.OK || e2 != api.ErrTopic:
					t.Errorf("power for %d: Create %d, Open %d over %q", fuse, e, e2, namesOf(left))
				default:
					none++
				}
				// It can be created anew, whatever is left, and what is not its own is as it was.
				again, _ = simfs.Load(left, 1<<20)
				_, e2 = topic.Create(again, 3, 256, 100, 7)
				want(t, "Create anew", e2, api.OK)
				wantFiles(t, "created anew", again.Image(), both(f, fresh()))
			}
		}
	}
	if none < 20 || empty < 4 {
		t.Errorf("%d, %d", none, empty)
	}
}

// A crash in a Create that was refused room leaves no topic either.
func TestRefusedCreateAndCrashes(t *testing.T) {
	for room := range 21 + len(fresh()["t3.man"]) {
		for fuse := -1; fuse < 8; fuse++ {
			d := holding(t, others())
			d.SetQuota(d.Used() + room)
			d.Fuse(fuse)
			p, e := topic.Create(d, 3, 256, 100, 7)
			if e != api.ErrSpace && (e != api.ErrDead || fuse < 0) || p != nil {
				t.Errorf("room for %d, power for %d: %d", room, fuse, e)
			}
			for _, left := range probe.Leavings(d) {
				again, _ := simfs.Load(left, 1<<20)
				q, e := topic.Open(again, 3, 256, 100, 0)
				wantRefused(t, "Open", q, e, api.ErrTopic)
			}
		}
	}
}

// What a crash in Open leaves, of a disk with all that Open has to see to.
func TestOpenAndCrashes(t *testing.T) {
	torn := three()["t3.7.seg"]
	for what, f := range map[string]files{
		"nothing":       three(),
		"orphans":       both(three(), orphans()),
		"a torn end":    three().with("t3.7.seg", torn[:len(torn)-3]),
		"both":          both(three().with("t3.7.seg", torn+"garbage"), orphans()),
		"a broken roll": both(sealedLast(), orphans()),
		"a torn seal":   three().with("t3.7.seg", sealed(third()).bytes(3)[:len(torn)+16]),
	} {
		recs, _ := opened(t, holding(t, f)).Records()
		wantNoLess(t, what, f.image(), recs)
	}
}

// What a crash in Install leaves: the records of before, or those of behind it, and of what was pending a first part.
func TestInstallAndCrashes(t *testing.T) {
	old, fresh := slices.Concat(ones(), twos(), late()), append(twos()[1:], late()...)
	count := map[string]int{}
	for _, synced := range []bool{true, false} {
		for fuse := range 7 {
			d, p := readyToMerge(t)
			n, m := numbered(t, p), numbered(t, p)
			build(t, d, shelf{n, 3, twos()[1:], true})
			build(t, d, shelf{m, 0, nil, true})
			if synced {
				d.SyncDir()
			}
			d.Fuse(fuse)
			e := p.Install([]int{1, 2}, []int{n, m}, 3)
			want(t, fmt.Sprint("power for ", fuse), e == api.OK, fuse >= 5)
			if e != api.OK {
				want(t, "the mark", p.State().Mark, 0)
			}
			for _, left := range probe.Leavings(d) {
				again, _ := simfs.Load(left, 1<<20)
				q := opened(t, again)
				recs, _ := q.Records()
				what := ""
				switch {
				case q.State().Mark == 3 && slices.Equal(recs[:len(fresh)], fresh):
					what, recs = "behind", recs[len(fresh):]
				case q.State().Mark == 0 && e != api.OK && slices.Equal(recs[:len(old)], old):
					what, recs = "before", recs[len(old):]
				default:
					t.Fatalf("power for %d, %d: %v, %s", fuse, e, q.State(), briefs(recs))
				}
				count[fmt.Sprint(what, len(recs))]++
				if len(recs) > 1 || !slices.Equal(recs, wait()[:len(recs)]) {
					t.Fatalf("power for %d, %d: %s", fuse, e, briefs(recs))
				}
				want(t, "Next", q.State().Next, int64(5+len(recs)))
				wantGet(t, "b", q, "b", twos()[1])
				wantKeys(t, "keys", q, "b", "", 9, false, "b", "c")
				want(t, "no orphans", len(again.Image()), map[string]int{"before": 6, "behind": 4}[what])
				wantAppend(t, "a producer", q, 0, api.Write{Key: "z", Pid: 9, Seq: 1}, map[int]int64{0: 1}[len(recs)], len(recs) == 0, map[int]api.Errno{1: api.ErrStale}[len(recs)])
			}
		}
	}
	for _, kind := range []string{"before0", "before1", "behind0", "behind1"} {
		if count[kind] < 4 {
			t.Errorf("%v", count)
		}
	}
}

// Two topics on one disk: a crash in the midst of what is done to one leaves the other as it was.
func TestTwoTopicsAndCrashes(t *testing.T) {
	for fuse := 0; ; fuse++ {
		d, p := made(t)
		q, e := topic.Create(d, 33, 256, 100, 7)
		want(t, "Create", e, api.OK)
		one, two := &tale{}, &tale{}
		d.Fuse(fuse)
		for i := range int64(6) {
			one.live(d, p, writes(put(0, "a", fmt.Sprint(i)), sized(0, 60)))
			two.live(d, q, writes(put(0, "b", strings.Repeat("x", int(i)))))
			if i%3 == 1 {
				one.live(d, p, []deed{{}})
			}
			if i%4 == 2 {
				two.live(d, q, []deed{{roll: true}})
			}
		}
		for _, left := range probe.Leavings(d) {
			wantPart(t, fmt.Sprint("power for ", fuse), left, one)
			again, _ := simfs.Load(left, 1<<20)
			opened(t, again)
			r, e := topic.Open(again, 33, 256, 100, 0)
			want(t, "Open of the other", e, api.OK)
			recs, _ := r.Records()
			if len(recs) < two.firm || len(recs) > len(two.accepted) || !slices.Equal(recs, two.accepted[:len(recs)]) {
				t.Fatalf("power for %d: the other: %s", fuse, briefs(recs))
			}
		}
		if !d.Dead() {
			break
		}
	}
}
