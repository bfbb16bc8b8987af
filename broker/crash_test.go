package broker_test

import (
	"fmt"
	"maps"
	"slices"
	"testing"

	"chronicle/api"
	"chronicle/broker"
	"chronicle/probe"
	"chronicle/simfs"
)

// beginning is a life in which nothing has been done yet, with one connection.
func beginning(t *testing.T, count map[string]int) *life {
	t.Helper()
	cfg := api.Config{Limit: 256, Horizon: 8, Share: 30}
	d, _ := simfs.New(wide)
	want(t, "Format", broker.Format(d, cfg, 0), api.OK)
	w, e := twinsOver(t, d.Image(), cfg, 0, -1)
	want(t, "Open", e, api.OK)
	l := &life{t: t, w: w, cfg: cfg, dice: probe.Noise(1, 20000), names: 6, gens: map[string]int64{}, hungry: map[int]int{}, count: count}
	l.x = newWitness(t, &l.w, cfg, count)
	l.connect()
	return l
}

// asks says requests, and serves them.
func (l *life) asks(list ...api.Request) {
	for _, r := range list {
		l.say(1, r)
		l.goes(0)
	}
}

// goes makes steps, each with a pick, and takes what is sent.
func (l *life) goes(picks ...int) {
	for _, pick := range picks {
		l.step(pick)
		l.take(1, wide)
	}
}

// plots is what is done until the power goes.
func plots() map[string]func(*life) {
	return map[string]func(*life){
		"topics come and go": func(l *life) {
			l.asks(create("a"), create("b"), put("a", "k", "1"), put("b", "k", "2"), drop("a"))
			l.goes(1)
			l.asks(create("a"), put("a", "k", "3"), create("c"), put("b", "l", "4"))
			l.goes(1)
			l.asks(drop("b"), drop("c"), put("a", "l", "5"), drop("a"), create("b"))
		},
		"commits and rolls": func(l *life) {
			l.asks(create("a"), create("b"))
			for i := range 5 {
				l.asks(by(7, int64(i)+1, put("a", fmt.Sprint("k", i%3), bulk(i))), put("b", "x", fmt.Sprint(i)))
				if i%2 == 1 {
					l.goes(1)
				}
				l.asks(by(7, int64(i)+1, put("a", "", "")), remove("a", fmt.Sprint("k", i%2)))
			}
		},
		"merges": func(l *life) {
			l.asks(create("a"))
			for i := range 6 {
				l.asks(put("a", fmt.Sprint("k", i%2), bulk(i)))
			}
			l.asks(remove("a", "k1"), put("a", "x", bulk(7)))
			l.goes(1, 3, 3, 3, 3)
			l.asks(put("a", "k0", "late"))
			l.goes(3, 1, 3, 3, 3, 3, 3)
			l.now += 20
			l.asks(put("a", "x", bulk(8)), put("a", "y", bulk(9)))
			l.goes(1, 3, 3, 3, 3, 3, 3, 3, 3, 3, 3, 3, 3, 3, 3)
		},
		"groups": func(l *life) {
			l.asks(create("a"), create("b"), put("a", "k", "1"), put("b", "k", "1"), join("g"))
			l.goes(1)
			l.asks(reach("g", "a", 1, 1), join("h"), reach("h", "b", 1, 0), reach("h", "a", 1, 1), join("g"), reach("g", "a", 1, 0), reach("g", "a", 2, 0))
			l.goes(1)
			l.asks(position("g", "a"), reach("h", "b", 1, 1), drop("a"), join("h"), reach("h", "b", 2, 0))
			l.goes(1)
			l.asks(drop("b"), join("i"))
		},
		"a merge of what is dropped": func(l *life) {
			l.asks(create("a"), create("b"), put("b", "k", "1"))
			for i := range 4 {
				l.asks(put("a", "k", bulk(i)))
			}
			l.goes(1, 3, 3, 3)
			l.asks(drop("a"), put("b", "l", "2"), create("a"))
			for i := range 4 {
				l.asks(put("a", fmt.Sprint("k", i/2), bulk(i)))
			}
			l.goes(1, 3, 3, 3, 3, 3)
		},
	}
}

// over is a witness of the same that looks at another opening of the store.
func (x *witness) over(w *twins) *witness {
	other := *x
	other.w = w
	other.stories, other.used, other.asked = map[int]*story{}, maps.Clone(x.used), maps.Clone(x.asked)
	for id, s := range x.stories {
		again := *s
		again.log = slices.Clone(s.log)
		other.stories[id] = &again
	}
	other.groups = slices.Clone(x.groups)
	other.waiting = maps.Clone(x.waiting)
	return &other
}

// leavings is some of what a crash may leave of a disk: nothing that was not synced, all of it, and what chance leaves.
func leavings(d *simfs.Disk, seed int) [][]api.File {
	all := [][]api.File{d.Crash(nil), d.Image()}
	known := map[string]int{probe.Key(all[0]): 1, probe.Key(all[1]): 1}
	for i := range 16 {
		var picks []int
		for _, x := range probe.Noise(uint64(seed*16+i), 24) {
			picks = append(picks, int(x>>20%1000))
		}
		image := d.Crash(picks)
		known[probe.Key(image)]++
		if known[probe.Key(image)] == 1 {
			all = append(all, image)
		}
	}
	return all
}

// behind is what goes on over an image, behind a crash.
func (l *life) behind(image []api.File, fuse int) (*life, api.Errno) {
	w, e := twinsOver(l.t, image, l.cfg, l.now, fuse)
	next := *l
	next.w = w
	if e != api.OK {
		return &next, e
	}
	next.x = l.x.over(&next.w)
	next.x.clock = l.now
	next.x.reopened(l.died)
	next.died, next.passed, next.conns, next.hungry = false, [4]int{}, nil, map[int]int{}
	next.connect()
	return &next, api.OK
}

// goOn writes to what is left: the next record gets the next offset, and a producer's is not taken twice.
func (l *life) goOn() {
	ids := slices.Sorted(maps.Keys(l.x.stories))
	for _, id := range ids {
		s := l.x.stories[id]
		seq := s.last(7).Seq
		l.asks(put(s.name, "next", "v"), by(7, max(seq, 1), put(s.name, "again", "v")), by(7, seq+1, put(s.name, "then", "v")), position("h", s.name))
	}
	l.asks(join("g"))
	l.goes(1)
	l.w.same("behind a crash")
}

// P2, P3, P8, 20.18: the power goes at each changing operation, within each kind of step, and whatever a crash may leave is opened; the power may go within that, too.
func TestCrashes(t *testing.T) {
	count := map[string]int{}
	for what, plot := range plots() {
		whole := beginning(t, count)
		ops := -whole.w.d.Ops()
		plot(whole)
		ops += whole.w.d.Ops()
		if t.Failed() {
			t.Fatalf("%s, without a crash", what)
		}
		for fuse := range ops + 1 {
			l := beginning(t, count)
			l.w.disks(func(d *simfs.Disk) { d.Fuse(fuse) })
			plot(l)
			want(t, "the power goes", l.died, fuse < ops)
			for i, image := range leavings(l.w.d, fuse) {
				next, e := l.behind(image, -1)
				want(t, "Open", e, api.OK)
				if i%4 == 0 {
					next.goOn()
				}
				if i == 1 && fuse%4 == 0 {
					l.openByHalf(image)
				}
				if t.Failed() {
					t.Fatalf("%s, a fuse of %d, the image %d", what, fuse, i)
				}
			}
		}
	}
	for _, what := range []string{"a creation that was under way", "a drop that was under way", "forgotten by half", "lost, and not acknowledged", "the power goes in Open"} {
		if count[what] == 0 {
			t.Errorf("%s: never seen", what)
		}
	}
	t.Log(count)
}

// openByHalf lets the power go at each operation of Open, and opens what is left of that.
func (l *life) openByHalf(image []api.File) {
	for fuse := 0; ; fuse++ {
		half, e := l.behind(image, fuse)
		if e == api.OK {
			return
		}
		want(l.t, "the power goes in Open", e, api.ErrDead)
		for _, left := range leavings(half.w.d, fuse) {
			_, e := l.behind(left, -1)
			want(l.t, "Open", e, api.OK)
			l.count["the power goes in Open"]++
		}
	}
}
