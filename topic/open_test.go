package topic_test

import (
	"fmt"
	"maps"
	"slices"
	"testing"

	"chronicle/api"
	"chronicle/record"
	"chronicle/simfs"
	"chronicle/topic"
)

// The segments of the topic that most of these tests open: the first two are sealed, and a merge has left out the offset 3.
func first() shelf {
	return shelf{5, 0, []api.Record{put(0, "a", "1"), of(1, 3, at(60, put(1, "b", "2")))}, true}
}

func second() shelf { return shelf{2, 2, []api.Record{gone(2, "a"), put(4, "c", "4")}, true} }

func third() shelf {
	return shelf{7, 5, []api.Record{of(9, 1, at(40, put(5, "a", "5"))), of(1, 4, at(45, put(6, "d", "6"))), at(44, gone(7, "c"))}, false}
}

func manOfThree() api.Manifest {
	return api.Manifest{Id: 3, NextSeg: 11, Next: 5, Mark: 2, Clock: 30, Prods: []api.Prod{{Pid: 1, Seq: 3, Off: 1}}}
}

func three() files { return stored(manOfThree(), first(), second(), third()) }

// leftOfThree is the records that are left there.
func leftOfThree() []api.Record {
	return slices.Concat(first().recs, second().recs, third().recs)
}

func stateOfThree() api.TopicState {
	n := int64(len(first().bytes(3)) + len(second().bytes(3)) + len(third().bytes(3)))
	// a=5, b=2 and d=6 live; the tombstone of c is young.
	return api.TopicState{Id: 3, Next: 8, Committed: 8, Mark: 2, Clock: 45, Segs: 3, Live: 3, Dead: 3, Bytes: n}
}

// 10.2
func TestOpen(t *testing.T) {
	d := holding(t, both(three(), others()))
	p := opened(t, d)
	want(t, "State", p.State(), stateOfThree())
	wantRecords(t, "opened", p, leftOfThree()...)
	wantFiles(t, "opened", d.Image(), both(three(), others()))
	want(t, "operations", d.Ops(), 1) // the last segment is synced
	wantGet(t, "opened", p, "a", third().recs[0])
	wantGet(t, "opened", p, "b", first().recs[1])
	wantGet(t, "opened", p, "c", api.Record{})
	wantKeys(t, "opened", p, "", "", 9, false, "a", "b", "d")
	wantList(t, "Sealed", p.Sealed(), []int{5, 2})
	wantFrom(t, "over a gap", p, 3, 1, 1, second().recs[1:], 5, api.OK)
	n, e := p.NewSeg()
	want(t, "NewSeg", fmt.Sprint(n, e), "11 0")
	wantAppend(t, "a producer of the manifest", p, 0, api.Write{Key: "x", Pid: 1, Seq: 4}, 6, true, api.OK)
	wantAppend(t, "a producer of the last segment", p, 0, api.Write{Key: "x", Pid: 9, Seq: 1}, 5, true, api.OK)
	wantAppend(t, "the next record", p, 0, api.Write{Key: "x", Pid: 9, Seq: 2}, 8, false, api.OK)
	commit(t, p)
	wantGet(t, "the next record", p, "x", of(9, 2, at(45, put(8, "x", ""))))
}

// broken is what Open does not take.
func broken() map[string]files {
	f := three()
	list := map[string]files{
		"nothing":                 nil,
		"others":                  others(),
		"no manifest":             f.without("t3.man"),
		"an empty manifest":       f.with("t3.man", ""),
		"a torn manifest":         f.with("t3.man", f["t3.man"][:20]),
		"a longer manifest":       f.with("t3.man", f["t3.man"]+"\x00"),
		"a manifest of another":   f.with("t3.man", manOf(api.Manifest{Id: 4, NextSeg: 11, Segs: []int{7}})),
		"a manifest beside":       f.without("t3.man").with("t3.man.tmp", f["t3.man"]),
		"not sealed":              f.with("t3.5.seg", unsealed(first()).bytes(3)),
		"not sealed in the midst": f.with("t3.2.seg", unsealed(second()).bytes(3)),
		"more behind a seal":      f.with("t3.2.seg", f["t3.2.seg"]+"\x00"),
		"a torn seal":             f.with("t3.2.seg", f["t3.2.seg"][:len(f["t3.2.seg"])-1]),
	}
	for _, name := range []string{"t3.5.seg", "t3.2.seg", "t3.7.seg"} {
		list["no "+name] = f.without(name)
		list["an empty "+name] = f.with(name, "")
		list["a short head of "+name] = f.with(name, f[name][:20])
		for _, at := range []int{0, 4, 8, 16, 20} {
			list[fmt.Sprint("a wrong head of ", name, " at ", at)] = f.turned(name, at)
		}
	}
	for _, s := range []shelf{first(), second(), third()} {
		name := segName(3, s.number)
		list["another topic's "+name] = f.with(name, s.bytes(4))
		s.number++
		list["another number's "+name] = f.with(name, s.bytes(3))
	}
	for at := 21; at < len(f["t3.2.seg"]); at++ {
		list[fmt.Sprint("a byte changed at ", at)] = f.turned("t3.2.seg", at)
	}
	return list
}

func unsealed(s shelf) shelf {
	s.sealed = false
	return s
}

// disordered is topics whose offsets do not rise.
func disordered() map[string]files {
	m := manOfThree()
	again := second()
	again.base, again.recs = 0, []api.Record{put(1, "z", "")}
	low := second()
	low.base, low.recs = 0, []api.Record{put(0, "z", ""), put(9, "z", "")}
	late := third()
	late.base, late.recs = 0, []api.Record{put(4, "z", "")}
	none := shelf{number: 6, base: 9, sealed: true}
	return map[string]files{
		"the same offset":           stored(m, first(), again, third()),
		"a lower offset":            stored(m, first(), low, third()),
		"the last has the same":     stored(m, first(), second(), late),
		"in another order":          stored(m, second(), first(), third()),
		"the last stands first":     stored(m, sealed(third()), first(), shelf{number: 9}),
		"with an empty one between": stored(m, first(), none, again, third()),
	}
}

func sealed(s shelf) shelf {
	s.sealed = true
	return s
}

// crowdOf is a topic of which the manifest has 64 producers, and the last segment one more.
func crowdOf() files {
	m := manOfThree()
	m.Prods = nil
	for i := range int64(64) {
		m.Prods = append(m.Prods, api.Prod{Pid: 100 + i, Seq: 1, Off: 0})
	}
	return stored(m, first(), second(), third())
}

func TestOpenRefused(t *testing.T) {
	all := broken()
	maps.Copy(all, disordered())
	all["65 producers"] = crowdOf()
	for what, f := range all {
		// Nothing is changed, and what does not belong there is left alone too.
		for _, f := range []files{f, both(f, files{"t3.99.seg": "x", "t3.7.hint": "y", "t3.man.tmp": "z"})} {
			d := holding(t, f)
			p, e := topic.Open(d, 3, 256, 100, 0)
			wantRefused(t, what, p, e, api.ErrTopic)
			wantFiles(t, what, d.Image(), f)
			want(t, what+": operations", d.Ops(), 0)
			d.Fuse(0) // no changing operation is needed to see it
			p, e = topic.Open(d, 3, 256, 100, 0)
			wantRefused(t, what, p, e, api.ErrTopic)
			unpower(t, d)
			p, e = topic.Open(d, 3, 256, 100, 0)
			wantRefused(t, what+", without power", p, e, api.ErrDead)
		}
	}
}

// Empty segments stand in nobody's way, whatever their base says.
func TestOpenWithEmptySegments(t *testing.T) {
	f := stored(manOfThree(), shelf{number: 8, base: 7, sealed: true}, first(), shelf{number: 9, base: 1 << 40, sealed: true}, second(), third())
	p := opened(t, holding(t, f))
	wantRecords(t, "opened", p, leftOfThree()...)
	wantList(t, "Sealed", p.Sealed(), []int{8, 5, 9, 2})
	wantTake(t, "an empty one", p, 8, 0, api.Record{}, 0, api.ErrPlace)
	s := stateOfThree()
	s.Segs, s.Bytes = 5, s.Bytes+2*38
	want(t, "State", p.State(), s)
	want(t, "Stats of an empty one", p.Stats()[2], api.SegStat{Number: 9})
}

func orphans() files {
	return files{
		"t3.7.hint": third().hint(), "t3.9.seg": first().bytes(3), "t3.9.hint": "x", "t3.man.tmp": "y", "t3.5.seg.tmp": "z",
		"t3.1073741823.seg": "", "t3.2.hint.tmp": "", "t3.77.seg": third().bytes(3),
	}
}

func TestOrphansAreRemoved(t *testing.T) {
	all := map[string]files{"all": orphans()}
	for name, b := range orphans() {
		all[name] = files{name: b}
	}
	for what, o := range all {
		f := both(both(three(), others()), o)
		d := holding(t, f)
		p := opened(t, d)
		want(t, what+": State", p.State(), stateOfThree())
		wantRecords(t, what, p, leftOfThree()...)
		wantFiles(t, what, d.Image(), both(three(), others()))
		wantFiles(t, what+": durable", d.Crash(nil), both(three(), others()))
		want(t, what+": operations", d.Ops(), len(o)+2)
		for n := range len(o) + 2 {
			d := holding(t, f)
			d.Fuse(n)
			p, e := topic.Open(d, 3, 256, 100, 0)
			wantRefused(t, what, p, e, api.ErrDead)
			rest := both(three(), others())
			for _, one := range o.image()[min(n, len(o)):] {
				rest[one.Name] = string(one.Data)
			}
			wantFiles(t, fmt.Sprintf("%s: power for %d", what, n), d.Image(), rest)
			if n > len(o) {
				wantFiles(t, what+": synced", d.Crash(nil), rest)
			}
		}
	}
}

// A last segment is right up to its last whole record.
func TestOpenOverATornLastSegment(t *testing.T) {
	b := third().bytes(3)
	low := first().bytes(3)[21:36] // a whole record, whose offset is too low
	whole := []int{21}
	for i := range third().recs {
		whole = append(whole, 21+sizes(third().recs[:i+1]))
	}
	for n := 21; n <= len(b); n++ {
		for _, behind := range []string{"", "\x00", "\xa9", "garbage", low} {
			d := holding(t, three().with("t3.7.seg", b[:n]+behind))
			p := opened(t, d)
			kept := 0
			for kept+1 < len(whole) && whole[kept+1] <= n {
				kept++
			}
			cut := third()
			cut.recs = cut.recs[:kept]
			what := fmt.Sprintf("the first %d bytes and %q", n, behind)
			wantRecords(t, what, p, leftOfThree()[:4+kept]...)
			wantFiles(t, what, d.Image(), three().with("t3.7.seg", cut.bytes(3)))
			wantFiles(t, what+": durable", d.Crash(nil), three().with("t3.7.seg", cut.bytes(3)))
			s := p.State()
			want(t, what+": Committed", s.Committed, int64(5+kept))
			want(t, what+": Next", s.Next, int64(5+kept))
			want(t, what+": Pending", s.Pending, 0)
			lay(t, p, at(50, put(int64(5+kept), "e", "8")))
		}
	}
	for at := 21; at < len(b); at++ {
		kept := 0
		for whole[kept+1] <= at {
			kept++
		}
		d := holding(t, three().turned("t3.7.seg", at))
		wantRecords(t, fmt.Sprint("a byte changed at ", at), opened(t, d), leftOfThree()[:4+kept]...)
	}
}

// What was torn off is torn off for good: a later record does not lead to it.
func TestWhatIsCutOffStaysCutOff(t *testing.T) {
	b := third().bytes(3)
	d := holding(t, three().with("t3.7.seg", b[:len(b)-1]))
	p := opened(t, d)
	lay(t, p, at(50, put(7, "e", "8")))
	commit(t, p)
	wantRecords(t, "opened anew", opened(t, d), append(leftOfThree()[:6], at(50, put(7, "e", "8")))...)
}

// rolled is the files of three, where the last segment has been sealed, behind the roll.
func rolled() files {
	m := manOfThree()
	m.NextSeg, m.Next, m.Clock = 12, 8, 45
	m.Prods = []api.Prod{{Pid: 1, Seq: 4, Off: 6}, {Pid: 9, Seq: 1, Off: 5}}
	return stored(m, first(), second(), sealed(third()), shelf{number: 11, base: 8})
}

func sealedLast() files { return three().with("t3.7.seg", sealed(third()).bytes(3)) }

func TestOpenDoesABrokenRollToItsEnd(t *testing.T) {
	for what, f := range map[string]files{
		"as it is":               sealedLast(),
		"with a hint":            sealedLast().with("t3.7.hint", sealed(third()).hint()),
		"with a torn hint":       sealedLast().with("t3.7.hint", "\xb1\x00"),
		"with the next segment":  sealedLast().with("t3.11.seg", shelf{number: 11, base: 8}.bytes(3)),
		"with an empty one":      sealedLast().with("t3.11.seg", ""),
		"with the next manifest": sealedLast().with("t3.man.tmp", rolled()["t3.man"]),
		"with more behind":       sealedLast().with("t3.7.seg", sealed(third()).bytes(3)+"\xae more"),
	} {
		d := holding(t, both(f, others()))
		p := opened(t, d)
		wantFiles(t, what, d.Image(), both(rolled(), others()))
		wantFiles(t, what+": durable", d.Crash(nil), both(rolled(), others()))
		wantList(t, what+": Sealed", p.Sealed(), []int{5, 2, 7})
		s := stateOfThree()
		s.Segs, s.Bytes = 4, s.Bytes+17+21
		want(t, what+": State", p.State(), s)
		wantRecords(t, what, p, leftOfThree()...)
		lay(t, p, at(50, put(8, "e", "8")))
		commit(t, p)
		wantRecords(t, what+": opened anew", opened(t, d), append(leftOfThree(), at(50, put(8, "e", "8")))...)
	}
}

// A last segment that is sealed and has no record is rolled as well.
func TestOpenOverAnEmptySealedSegment(t *testing.T) {
	m := api.Manifest{Id: 3, NextSeg: 5, Next: 9, Clock: 2}
	d := holding(t, stored(m, shelf{number: 4, base: 9, sealed: true}))
	p := opened(t, d)
	m.NextSeg = 6
	wantFiles(t, "opened", d.Image(), stored(m, shelf{number: 4, base: 9, sealed: true}, shelf{number: 5, base: 9}))
	want(t, "State", p.State(), api.TopicState{Id: 3, Next: 9, Committed: 9, Clock: 2, Segs: 2, Bytes: 38 + 21})
}

// Where the roll is refused, the topic is opened all the same, and it is tried again.
func TestOpenThoughTheRollIsRefused(t *testing.T) {
	size := func(f files) int {
		n := 0
		for _, b := range f {
			n += len(b)
		}
		return n
	}
	bare := rolled().without("t3.7.hint") // with so little room the hint is left out
	for room := range 200 {
		d := holding(t, sealedLast())
		d.SetQuota(d.Used() + room)
		p := opened(t, d)
		enough := 21 + len(rolled()["t3.man"])
		if room >= enough {
			wantFiles(t, fmt.Sprint("room for ", room), d.Image(), bare)
			want(t, "bytes", d.Used(), size(bare))
			continue
		}
		wantFiles(t, fmt.Sprint("room for ", room), d.Image(), sealedLast())
		s := stateOfThree()
		s.Bytes += 17
		want(t, "State", p.State(), s)
		wantRecords(t, "the records", p, leftOfThree()...)
		wantList(t, "Sealed", p.Sealed(), []int{5, 2})
		wantAppend(t, "no room", p, 50, api.Write{Key: "e"}, 0, false, api.ErrSpace)
		want(t, "Roll", p.Roll(), api.ErrSpace)
		want(t, "Commit", p.Commit(), api.OK)
		d.SetQuota(1 << 20)
		if room%2 == 0 {
			want(t, "Roll with room", p.Roll(), api.OK)
		}
		lay(t, p, at(50, put(8, "e", "8")))
		commit(t, p)
		wantRecords(t, "with room", p, append(leftOfThree(), at(50, put(8, "e", "8")))...)
		wantList(t, "Sealed", p.Sealed(), []int{5, 2, 7})
		wantRecords(t, "opened anew", opened(t, d), append(leftOfThree(), at(50, put(8, "e", "8")))...)
	}
}

func TestOpenThoughThereAreNoMoreSegments(t *testing.T) {
	for _, dead := range []bool{true, false} {
		list := many(64)
		list[63].sealed = true
		errno := api.ErrLive
		if dead {
			list[3].recs[0].Key = list[2].recs[0].Key
			errno = api.ErrSegs
		}
		f := stored(api.Manifest{Id: 3, Next: 63, Clock: 7}, list...)
		d := holding(t, f)
		p := opened(t, d)
		want(t, "Committed", p.State().Committed, 64)
		want(t, "Roll", p.Roll(), errno)
		wantAppend(t, "full", p, 7, api.Write{Key: "x"}, 0, false, errno)
		wantFiles(t, "the disk", d.Image(), f)
	}
}

// many is segments with one record each, all but the last sealed.
func many(n int) []shelf {
	var list []shelf
	for i := range n {
		off := int64(i)
		list = append(list, shelf{i + 1, off, []api.Record{put(off, fmt.Sprint("key ", i), "v")}, i < n-1})
	}
	return list
}

func TestOpenThoughNumbersAreAtTheirEnd(t *testing.T) {
	m := manOfThree()
	m.NextSeg = 1 << 30
	f := stored(m, first(), second(), sealed(third()))
	d := holding(t, f)
	p := opened(t, d)
	want(t, "Roll", p.Roll(), api.ErrConfig)
	wantAppend(t, "no number", p, 7, api.Write{Key: "x"}, 0, false, api.ErrConfig)
	wantRecords(t, "opened", p, leftOfThree()...)
	wantFiles(t, "the disk", d.Image(), f.with("t3.7.hint", sealed(third()).hint()))
}

// A loss of power in the roll is told.
func TestOpenWithoutPowerForTheRoll(t *testing.T) {
	d := holding(t, sealedLast())
	opened(t, d)
	need := d.Ops()
	want(t, "operations", need, 1+3+3+5)
	for n := range need {
		d := holding(t, sealedLast())
		d.Fuse(n)
		p, e := topic.Open(d, 3, 256, 100, 0)
		wantRefused(t, fmt.Sprint("power for ", n), p, e, api.ErrDead)
	}
}

// A hint is never believed.
func TestHintsAreNotAsked(t *testing.T) {
	lie := first()
	lie.recs = []api.Record{put(0, "b", "1"), of(1, 3, at(60, put(1, "a", "2")))} // of as many bytes
	for what, f := range map[string]files{
		"none":          three().without("t3.5.hint").without("t3.2.hint"),
		"a torn one":    three().with("t3.5.hint", three()["t3.5.hint"][:12]),
		"an empty one":  three().with("t3.5.hint", ""),
		"a lie":         three().with("t3.5.hint", lie.hint()),
		"another one's": three().with("t3.5.hint", three()["t3.2.hint"]),
	} {
		d := holding(t, f)
		p := opened(t, d)
		want(t, what+": State", p.State(), stateOfThree())
		wantRecords(t, what, p, leftOfThree()...)
		wantGet(t, what, p, "b", first().recs[1])
		wantFiles(t, what, d.Image(), f)
	}
}

// The clock is the greatest of three.
func TestTheClockBehindOpen(t *testing.T) {
	for _, now := range []int64{0, 20, 80} {
		for _, old := range []int64{0, 30, 70} {
			for _, times := range [][]int64{nil, {10}, {60}, {50, 65, 40}, {lastTime}} {
				last := shelf{number: 7, base: 5}
				clock := max(now, old)
				for i, time := range times {
					last.recs = append(last.recs, at(time, put(int64(5+i), "x", "")))
					clock = max(clock, time)
				}
				m := manOfThree()
				m.Clock = old
				d := holding(t, stored(m, first(), second(), last)) // the first segment has a record of the time 60
				p, e := topic.Open(d, 3, 256, 100, now)
				want(t, "Open", e, api.OK)
				want(t, fmt.Sprintf("the clock of %d, %d, %d", now, old, times), p.State().Clock, clock)
				want(t, "Tick", p.Tick(0), clock)
			}
		}
	}
}

// The committed end is the greater of two.
func TestTheEndBehindOpen(t *testing.T) {
	for _, next := range []int64{2, 4, 5, 6, 8, 9, 1000, 1 << 40} {
		m := manOfThree()
		m.Next = next
		d := holding(t, stored(m, first(), second(), third()))
		p := opened(t, d)
		end := max(next, 8)
		want(t, "Committed", p.State().Committed, end)
		want(t, "Next", p.State().Next, end)
		wantFrom(t, "the end", p, 8, 1, 1, nil, end, api.OK)
		if next < 1<<40 {
			lay(t, p, at(50, put(end, "e", "8")))
		}
		empty := shelf{number: 7, base: 0}
		p = opened(t, holding(t, stored(m, first(), second(), empty)))
		want(t, "Committed", p.State().Committed, max(next, 5))
		p = opened(t, holding(t, stored(m, empty)))
		want(t, "Committed without records", p.State().Committed, next)
	}
}

// The producers' table is made of the manifest's and of the last segment's records.
func TestProducersBehindOpen(t *testing.T) {
	m := manOfThree()
	m.Prods = []api.Prod{{Pid: 2, Seq: 7, Off: 3}, {Pid: 4, Seq: 5, Off: 2}}
	last := third()
	last.recs = append(last.recs, of(4, 5, at(46, put(8, "e", ""))), of(4, 8, at(46, put(9, "e", ""))), of(6, 3, at(46, put(10, "e", ""))))
	p := opened(t, holding(t, stored(m, first(), second(), last)))
	for _, c := range []struct {
		pid, seq, off int64
		again         bool
		errno         api.Errno
	}{
		{1, 4, 6, true, api.OK},        // of the last segment
		{1, 3, 0, false, api.ErrStale}, // the sealed ones are not asked
		{2, 7, 3, true, api.OK},        // of the manifest
		{2, 9, 0, false, api.ErrSeq},   //
		{4, 8, 9, true, api.OK},        // of both
		{4, 5, 0, false, api.ErrStale}, //
		{6, 3, 10, true, api.OK},       // others may be missing ahead
		{8, 2, 0, false, api.ErrSeq},   // of none
		{9, 1, 5, true, api.OK},        //
		{9, 2, 11, false, api.OK},      //
		{1, 5, 12, false, api.OK},      //
		{8, 1, 13, false, api.OK},      //
		{4, 10, 0, false, api.ErrSeq},  //
		{4, 9, 14, false, api.OK},      //
		{10, 1, 15, false, api.OK},     //
		{0, 0, 16, false, api.OK},      //
		{10, 1, 15, true, api.OK},      //
		{2, 8, 17, false, api.OK},      //
		{2, 7, 0, false, api.ErrStale}, //
		{12, -1, 0, false, api.ErrNumber},
	} {
		wantAppend(t, fmt.Sprintf("%d/%d", c.pid, c.seq), p, 0, api.Write{Key: "p", Pid: c.pid, Seq: c.seq}, c.off, c.again, c.errno)
	}
}

// With as many producers as may be a topic is opened, and takes no other.
func TestManyProducersBehindOpen(t *testing.T) {
	last := shelf{number: 1}
	m := api.Manifest{Id: 3, Next: 1}
	for i := range int64(64) {
		if i%2 == 0 {
			m.Prods = append(m.Prods, api.Prod{Pid: 1 + i, Seq: 1})
		}
		last.recs = append(last.recs, of(1+i, 1, put(i, "k", "")))
	}
	p := opened(t, holding(t, stored(m, last)))
	wantAppend(t, "another one", p, 0, api.Write{Key: "p", Pid: 65, Seq: 1}, 0, false, api.ErrProds)
	wantAppend(t, "one of them", p, 0, api.Write{Key: "p", Pid: 64, Seq: 2}, 64, false, api.OK)
}

// A topic may be opened with other measures.
func TestOpenWithOtherMeasures(t *testing.T) {
	d := holding(t, three())
	p, e := topic.Open(d, 3, 65536, 0, 0)
	want(t, "Open", e, api.OK)
	want(t, "Limit", p.Limit(), 65536)
	s := stateOfThree()
	s.Dead = 4 // the tombstone of c is old at once
	want(t, "State", p.State(), s)
	for i := range 100 {
		lay(t, p, at(45, put(int64(8+i), "k", "some value")))
	}
	commit(t, p)
	want(t, "segments", p.State().Segs, 3)
	p = opened(t, d)
	want(t, "opened with a lower limit", p.State().Committed, 108)
	lay(t, p, at(45, put(108, "k", "v")))
	wantList(t, "Sealed", p.Sealed(), []int{5, 2, 7})
	wantRecords(t, "a lower limit", p, leftOfMany(d)...)
}

// leftOfMany is what the segments 5, 2 and 7 on a disk hold, by their bytes.
func leftOfMany(d *simfs.Disk) []api.Record {
	var list []api.Record
	for _, name := range []string{"t3.5.seg", "t3.2.seg", "t3.7.seg"} {
		for _, f := range record.Salvage([]byte(filesOf(d.Image())[name])) {
			list = append(list, f.Rec)
		}
	}
	return list
}

// A disk that no topic has left leads to no panic.
func TestOddDisks(t *testing.T) {
	// The last segment's base is above the next offset.
	d := holding(t, stored(api.Manifest{Id: 3, Next: 2}, shelf{number: 1, base: 50}))
	p := opened(t, d)
	wantAppend(t, "below the base", p, 0, api.Write{Key: "a"}, 0, false, api.ErrOrder)
	want(t, "Pending", p.State().Pending, 0)
	want(t, "Roll", p.Roll(), api.OK)
	// A file of the next number is there already.
	d, p = made(t)
	lay(t, p, put(0, "a", "1"))
	d.Create("t3.2.seg")
	want(t, "Roll", p.Roll(), api.ErrExists)
	want(t, "Roll once more", p.Roll(), api.ErrExists)
	n, e := p.NewSeg()
	want(t, "the number is not used", fmt.Sprint(n, e), "2 0")
	want(t, "Roll with another number", p.Roll(), api.OK)
	wantList(t, "Sealed", p.Sealed(), []int{1})
	wantRecords(t, "rolled", p, put(0, "a", "1"))
}
