package merge_test

import (
	"fmt"
	"slices"
	"testing"

	"chronicle/api"
	"chronicle/manifest"
	"chronicle/merge"
	"chronicle/probe"
	"chronicle/simfs"
	"chronicle/topic"
)

// account is what a topic told when the power went, and what it may tell behind that.
type account struct {
	keys    []string
	values  []string
	before  []api.Record // what was left, without the merge
	behind  []api.Record // and with it
	pending []api.Record // of which a first part may be there too
	moved   bool         // the merge's moment was past
	trying  bool         // it was the step of the moment in which the power went
}

// tells is the keys that live, and their values, as records tell them.
func tells(recs []api.Record) (keys, values []string) {
	last := map[string]api.Record{}
	for _, r := range recs {
		last[r.Key] = r
		keys = append(keys, r.Key)
	}
	slices.Sort(keys)
	keys = slices.DeleteFunc(slices.Compact(keys), func(key string) bool { return last[key].Kind != api.KValue })
	for _, key := range keys {
		values = append(values, last[key].Value)
	}
	return keys, values
}

// wantAsTold fails unless what a crash has left opens, and tells one of the two; it tells which, and how many of the pending ones are there.
func wantAsTold(t *testing.T, what string, image []api.File, a account) (bool, int) {
	t.Helper()
	d := loaded(image)
	p, e := topic.Open(d, 3, 256, 10, 0)
	if e != api.OK {
		t.Fatalf("%s: Open of %v: %d", what, names(image), e)
	}
	recs, _ := p.Records()
	n := 0
	for n < len(a.pending) && slices.Contains(recs, a.pending[n]) {
		n++
	}
	isBefore := slices.Equal(recs, slices.Concat(a.before, a.pending[:n]))
	isBehind := slices.Equal(recs, slices.Concat(a.behind, a.pending[:n]))
	if !(isBefore && !a.moved || isBehind && (a.moved || a.trying)) {
		t.Fatalf("%s: moved %t, trying %t: %s", what, a.moved, a.trying, briefs(recs))
	}
	keys, values := tells(slices.Concat(a.before, a.pending[:n]))
	if n == 0 {
		wantList(t, what+": keys", a.keys, keys)
		wantList(t, what+": values", a.values, values)
	}
	wantTells(t, what, p, keys, values)
	m, _ := manifest.Load(d, 3)
	wantList(t, what+": orphans", manifest.Orphans(names(d.Image()), m), nil)
	want(t, what+": what is opened is durable", probe.Key(d.Crash(nil)) == probe.Key(d.Image()), true)
	return isBehind, n
}

// wantTells fails unless a topic has just these keys, with these values.
func wantTells(t *testing.T, what string, p *topic.Topic, keys, values []string) {
	t.Helper()
	got, more := p.Keys("", "", 999)
	wantList(t, what+": Keys", got, keys)
	want(t, what+": more", more, false)
	for i, key := range keys {
		r, ok, e := p.Get(key)
		want(t, what+": Get of "+key, fmt.Sprint(r.Value == values[i], ok, e), fmt.Sprint(true, true, api.OK))
	}
}

// told is what a topic tells now.
func told(t *testing.T, p *topic.Topic) account {
	t.Helper()
	recs, _ := p.Records()
	keys, values := tells(recs)
	wantTells(t, "before the crash", p, keys, values)
	return account{keys: keys, values: values, before: recs, behind: recs}
}

// 11.11: the power goes at each operation of a merge, while nothing is written.
func TestCrashes(t *testing.T) {
	count := map[string]int{}
	for fuse := 0; ; fuse++ {
		s := ready(t)
		commit(t, s.p)
		a := told(t, s.p)
		a.behind = append(merged(), at(5, put(10, "i", "pending")))
		m := begun(t, s.p)
		s.d.Fuse(fuse)
		n := 0
		for ; !s.d.Dead() && !m.Over(); n++ {
			m.Step(10)
		}
		a.moved = n > moment
		a.trying = n == moment
		for _, image := range probe.Leavings(s.d) {
			behind, _ := wantAsTold(t, fmt.Sprint("power for ", fuse), image, a)
			count[fmt.Sprint(behind, a.trying)]++
			wantMergedAtLast(t, image, a.behind)
		}
		if !s.d.Dead() {
			break
		}
	}
	if count["false false"] < 300 || count["false true"] < 4 || count["true true"] < 1 || count["true false"] < 10 {
		t.Errorf("%v", count)
	}
}

// wantMergedAtLast fails unless a merge of what is left comes to the same records.
func wantMergedAtLast(t *testing.T, image []api.File, recs []api.Record) {
	t.Helper()
	d := loaded(image)
	p := opened(t, d)
	run(t, begun(t, p), 10)
	wantRecords(t, "merged at last", p, recs...)
	m, _ := manifest.Load(d, 3)
	wantList(t, "merged at last: orphans", manifest.Orphans(names(d.Image()), m), nil)
	want(t, "merged at last: all is durable", probe.Key(d.Crash(nil)) == probe.Key(d.Image()), true)
	want(t, "merged at last: the mark", opened(t, d).State().Mark, 2)
}

// busy does a merge of mixed records, and writes between its steps; it ends where the power goes. It tells what the topic told then.
func busy(t *testing.T, d *simfs.Disk, p *topic.Topic, m *merge.Merge) account {
	t.Helper()
	var a account
	passed := map[int64]int{}
	next := int64(10)
	for i := 0; !d.Dead() && !m.Over(); i++ {
		s, e := m.Step(10)
		a.trying = e != api.OK && !a.moved
		switch {
		case s.Kind == api.MgDrop || s.Kind == api.MgTomb:
			passed[s.Offset]++
		case s.Kind == api.MgCommit:
			a.moved = true
		}
		r := at(10, put(next, string([]byte{byte('a' + i*5%9)}), probe.Text(uint64(i), i%3*20)))
		if i%4 == 3 {
			r = at(10, gone(next, r.Key))
		}
		if _, _, e := p.Append(10, writing(r)); e == api.OK {
			next++
			a.pending = append(a.pending, r)
		}
		if i%3 == 1 {
			p.Commit()
		}
		if i%7 == 6 {
			p.Roll()
		}
		a.pending = slices.DeleteFunc(a.pending, func(r api.Record) bool { return r.Offset < p.State().Committed })
	}
	a.before, a.behind = nil, nil
	state := p.State()
	for _, r := range logOf(state.Committed) {
		a.before = append(a.before, r)
		if passed[r.Offset] == 0 {
			a.behind = append(a.behind, r)
		}
	}
	a.keys, a.values = tells(a.before)
	return a
}

// logOf is the first records that busy makes of a topic with mixed ones.
func logOf(n int64) []api.Record {
	list := slices.Concat(mixed()...)
	for i := 0; len(list) < int(n); i++ {
		r := at(10, put(int64(len(list)), string([]byte{byte('a' + i*5%9)}), probe.Text(uint64(i), i%3*20)))
		if i%4 == 3 {
			r = at(10, gone(r.Offset, r.Key))
		}
		list = append(list, r)
	}
	return list[:n]
}

// 11.11, while records are appended, committed and rolled between the steps.
func TestCrashesOfABusyTopic(t *testing.T) {
	count := map[string]int{}
	for fuse := 0; ; fuse++ {
		d, p := filled(t, mixed()...)
		m := begun(t, p)
		d.Fuse(fuse)
		a := busy(t, d, p, m)
		if !d.Dead() {
			want(t, "there was a merge", a.moved, true)
			wantRecords(t, "without a crash", p, a.behind...)
			break
		}
		for _, image := range probe.Leavings(d) {
			behind, n := wantAsTold(t, fmt.Sprint("power for ", fuse), image, a)
			count[fmt.Sprint(behind, n > 0)]++
		}
	}
	for _, kind := range []string{"true true", "true false", "false true", "false false"} {
		if count[kind] < 50 {
			t.Errorf("%v", count)
		}
	}
}

// The power goes while a merge is given up: what is left of its files, the next opening removes.
func TestCrashesOfStop(t *testing.T) {
	for n := range moment {
		for fuse := 0; ; fuse++ {
			s := ready(t)
			commit(t, s.p)
			a := told(t, s.p)
			m := begun(t, s.p)
			wantSteps(t, m, 10, story()[:n]...)
			s.d.Fuse(fuse)
			want(t, "Stop", m.Stop(), api.OK)
			wantOver(t, "stopped", m, s.p)
			for _, image := range probe.Leavings(s.d) {
				wantAsTold(t, fmt.Sprintf("behind %d steps, power for %d", n, fuse), image, a)
			}
			if !s.d.Dead() {
				break
			}
		}
	}
}

// Merge behind merge, and crash behind crash: what lives stays.
func TestCrashBehindCrash(t *testing.T) {
	crashes, ends := 0, 0
	for seed := range uint64(40) {
		d, p := filled(t, mixed()...)
		log := logOf(10)
		var m *merge.Merge
		for i, x := range probe.Noise(seed+1, 200) {
			x >>= 4
			if i%25 == 3 {
				d.Fuse(int(x >> 30 % 60))
			}
			switch x % 8 {
			case 0, 1:
				r := at(p.Tick(-1), put(int64(len(log)), string([]byte{byte('a' + x>>8%9)}), probe.Text(x, int(x>>12%60))))
				if x>>20%3 == 0 {
					r = at(r.Time, gone(r.Offset, r.Key))
				}
				if _, _, e := p.Append(0, writing(r)); e == api.OK {
					log = append(log, r)
				}
			case 2:
				p.Commit()
			case 3:
				p.Roll()
			default:
				if m.Over() {
					m, _ = merge.Start(p)
				}
				for range x >> 12 % 8 {
					if s, e := m.Step(p.Tick(-1) + int64(x>>8%3)); s.Kind == api.MgEnd && e == api.OK {
						ends++
					}
				}
			}
			if !d.Dead() {
				continue
			}
			firm := p.State().Committed
			var picks []int
			for _, y := range probe.Noise(x, 14) {
				picks = append(picks, int(y>>20%1000))
			}
			d = loaded(d.Crash(picks))
			p, m = opened(t, d), nil
			end := p.State().Committed
			if end < firm || end > int64(len(log)) {
				t.Fatalf("seed %d: of %d, %d committed, are left %d", seed, len(log), firm, end)
			}
			log = log[:end]
			crashes++
			keys, values := tells(log)
			wantTells(t, fmt.Sprintf("seed %d, action %d", seed, i), p, keys, values)
			if t.Failed() {
				t.FailNow()
			}
		}
	}
	if crashes < 150 || ends < 40 {
		t.Errorf("%d crashes, %d merges to their end", crashes, ends)
	}
}
