package merge_test

import (
	"fmt"
	"maps"
	"slices"
	"testing"

	"chronicle/api"
	"chronicle/manifest"
	"chronicle/merge"
	"chronicle/probe"
	"chronicle/simfs"
	"chronicle/topic"
)

// world is a topic that is merged while it is written to, and what it should be.
type world struct {
	t       *testing.T
	d       *simfs.Disk
	p       *topic.Topic
	limit   int
	horizon int64
	log     []api.Record // all that were accepted
	gone    map[int64]int
	m       *merge.Merge // the open one, if there is one
	c       *course
	top     int // the greatest number that a segment has had
	steps   int // of the open merge
	bound   int
	count   map[string]int // what was answered how often
}

func newWorld(t *testing.T, limit int, horizon int64) *world {
	t.Helper()
	d, _ := simfs.New(1 << 22)
	p, e := topic.Create(d, 3, limit, horizon, 0)
	want(t, "Create", e, api.OK)
	return &world{t: t, d: d, p: p, limit: limit, horizon: horizon, gone: map[int64]int{}, top: 1, count: map[string]int{}}
}

func keysOf() []string { return []string{"a", "b", "ab", "\x00", "\xff\xff", "a rather long key"} }

// append appends some record.
func (w *world) append(x uint64) {
	r := put(int64(len(w.log)), keysOf()[x%6], probe.Text(x, int(x>>8%120)))
	if x>>16%3 == 0 {
		r = gone(r.Offset, r.Key)
	}
	r = at(w.p.Tick(-1), r)
	lay(w.t, w.p, r)
	w.log = append(w.log, r)
	w.look()
}

// look learns which segments there are.
func (w *world) look() {
	for _, name := range names(w.d.Image()) {
		w.top = max(w.top, manifest.Parse(name).Seg)
	}
}

// committed is the log.
func (w *world) committed() []api.Record { return w.log[:w.p.State().Committed] }

// left is the records of the log that no merge has left out.
func (w *world) left() []api.Record {
	return slices.DeleteFunc(slices.Clone(w.committed()), func(r api.Record) bool { return w.gone[r.Offset] > 0 })
}

// start begins a merge.
func (w *world) start() {
	m, e := merge.Start(w.p)
	olds := w.p.Sealed()
	if len(olds) == 0 {
		want(w.t, "Start", fmt.Sprint(m == nil, e), fmt.Sprint(true, api.ErrNoMerge))
		return
	}
	want(w.t, "Start", e, api.OK)
	w.m, w.c = m, &course{t: w.t, limit: w.limit, horizon: w.horizon, olds: olds, left: olds}
	for _, seg := range olds {
		for _, r := range looked(w.t, w.d, seg, true) {
			w.c.queue = append(w.c.queue, waiting{seg, r})
		}
	}
	w.steps, w.bound = 0, merge.Steps(len(olds), len(w.c.queue))
	w.count["Start"]++
}

// step makes a step of the open merge, with so much room on the disk.
func (w *world) step(now int64, room int) {
	w.d.SetQuota(min(w.d.Used()+room, 1<<22))
	clock := w.p.Tick(-1)
	if 0 <= now && now <= lastTime {
		clock = max(clock, now)
	}
	moved := w.c.moved
	a := &around{w.committed(), clock, w.d.Quota() - w.d.Used(), filesOf(w.d.Image()), w.top}
	s, e, f := w.c.step(a)
	w.top = a.top
	wantStep(w.t, "against the model", w.m, now, s, e)
	w.wantFiles(f)
	w.d.SetQuota(1 << 22)
	w.steps++
	w.count[fmt.Sprint(s.Kind, " ", e)]++
	if w.c.moved && !moved {
		for _, off := range w.c.passed {
			w.gone[off]++
		}
	}
	want(w.t, "Over", w.m.Over(), w.c.over)
	if s.Kind == api.MgEnd && w.steps > w.bound { // 11.12
		w.t.Errorf("%d steps, the bound is %d", w.steps, w.bound)
	}
	w.forget()
}

// forget forgets a merge that is over.
func (w *world) forget() {
	if w.m != nil && w.m.Over() {
		wantOver(w.t, "over", w.m, w.p)
		w.m, w.c = nil, nil
	}
}

// stop stops the open merge.
func (w *world) stop() {
	f := filesOf(w.d.Image())
	clock := w.p.Tick(-1)
	if !w.c.moved {
		for _, n := range w.c.news {
			delete(f, fmt.Sprintf("t3.%d.seg", n.number))
			delete(f, fmt.Sprintf("t3.%d.hint", n.number))
		}
		w.count["Stop ahead"]++
	} else {
		for _, seg := range w.c.left {
			delete(f, fmt.Sprintf("t3.%d.seg", seg))
			delete(f, fmt.Sprintf("t3.%d.hint", seg))
		}
		w.count["Stop behind"]++
	}
	want(w.t, "Stop", w.m.Stop(), api.OK)
	want(w.t, "Stop: the clock", w.p.Tick(-1), clock)
	w.wantFiles(f)
	w.forget()
}

// wantFiles fails unless just these files lie on the disk.
func (w *world) wantFiles(f files) {
	w.t.Helper()
	got := filesOf(w.d.Image())
	wantList(w.t, "names", slices.Sorted(maps.Keys(got)), slices.Sorted(maps.Keys(f)))
	for name, b := range f {
		if got[name] != b {
			w.t.Errorf("%s has %x, want %x", name, got[name], b)
		}
	}
}

// wantUnseen fails unless the topic answers as if it were not merged, but for what was left out.
func (w *world) wantUnseen(p *topic.Topic, log []api.Record) {
	w.t.Helper()
	last := map[string]api.Record{}
	for _, r := range log {
		last[r.Key] = r
	}
	for _, key := range append(keysOf(), "never") {
		r := last[key]
		if r.Kind != 1 {
			r = api.Record{}
			delete(last, key)
		}
		if got, ok, e := p.Get(key); got != r || ok != (r.Kind == 1) || e != api.OK {
			w.t.Errorf("Get(%q) = %s, %t, %d, want %s", key, brief(got), ok, e, brief(r))
		}
	}
	live := slices.Sorted(maps.Keys(last))
	keys, more := p.Keys("", "", 99)
	wantList(w.t, "Keys", keys, live)
	want(w.t, "more Keys", more, false)
	keys, more = p.Keys("a", "b", 1)
	live = slices.DeleteFunc(live, func(key string) bool { return key < "a" || key >= "b" })
	wantList(w.t, "Keys", keys, live[:min(1, len(live))])
	want(w.t, "more Keys", more, len(live) > 1)
}

// wantLeft fails unless Records and From tell what is left.
func (w *world) wantLeft(x uint64) {
	w.t.Helper()
	left := w.left()
	wantRecords(w.t, "what is left", w.p, left...)
	offset := int64(x % uint64(w.p.State().Committed+1))
	for i, r := range left {
		if r.Offset >= offset {
			got, next, e := w.p.From(offset, 3, 1<<20)
			wantList(w.t, "From", got, left[i:min(i+3, len(left))])
			want(w.t, "From", e, api.OK)
			if i+3 >= len(left) {
				want(w.t, "From: the position", next, w.p.State().Committed)
			}
			return
		}
	}
}

// act does something.
func (w *world) act(x uint64) {
	switch x >> 4 % 32 {
	case 0, 1, 2, 3, 4, 5:
		w.append(x >> 12)
	case 6, 7, 8:
		commit(w.t, w.p)
	case 9:
		roll(w.t, w.p)
		w.look()
	case 10:
		w.p.Tick(w.p.Tick(-1) + int64(x>>12%4))
	case 11:
		if w.m != nil && x>>12%8 == 0 {
			w.stop()
		}
	default:
		if w.m == nil {
			if x>>12%4 == 0 {
				w.start()
			}
			return
		}
		room := 1 << 21
		if x>>16%64 == 0 {
			room = []int{0, 16, 17, 20, 21, 40, 60, 80, 100, 4096, 4110, 4150, 4200, 4250}[x>>24%14]
		}
		w.step(int64(x>>32%60)-20, room)
	}
}

// 11.5, 11.6, 11.7, 11.9, 11.12
func TestAgainstTheModel(t *testing.T) {
	count := map[string]int{}
	for seed := range uint64(150) {
		w := newWorld(t, 256+int(seed%5)*60, int64(seed%4*9))
		w.count = count
		for i, x := range probe.Noise(seed+1, 250) {
			w.act(x >> 3)
			w.wantUnseen(w.p, w.committed())
			w.wantLeft(x >> 20)
			if t.Failed() {
				t.Fatalf("seed %d, action %d", seed, i)
			}
		}
		// The power goes.
		log := w.committed()
		image := w.d.Crash(nil)
		p := openedWith(t, loaded(image), w.limit)
		w.wantUnseen(p, log)
		wantRecords(t, "opened anew", p, w.left()...)
	}
	for kind := api.MgKeep; kind <= api.MgEnd; kind++ {
		if count[fmt.Sprint(kind, " 0")] < 100 {
			t.Errorf("kind %d: only %d times", kind, count[fmt.Sprint(kind, " 0")])
		}
	}
	for _, what := range []string{"Start", "10 33", "Stop ahead", "Stop behind"} {
		if count[what] < 20 {
			t.Errorf("%s: only %d times of %v", what, count[what], count)
		}
	}
}
