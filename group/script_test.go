package group_test

import (
	"fmt"
	"testing"

	"chronicle/probe"
	"chronicle/simfs"
	"chronicle/topic"
)

// life is groups to which many things are done, over crashes and Opens.
type life struct {
	t     *testing.T
	w     twins
	limit int
	now   int64
	dice  []uint64
	firm  map[string]int64 // the greatest generation of each group whose Join was committed
	told  map[string]int
}

// roll is some number below n.
func (l *life) roll(n int) int {
	x := l.dice[0]
	l.dice = l.dice[1:]
	return int(x >> 20 % uint64(n))
}

// some is one of the right ones; seldom it is one of the wrong ones.
func some[T any](l *life, right []T, wrong ...T) T {
	if l.roll(25) == 0 {
		return wrong[l.roll(len(wrong))]
	}
	return right[l.roll(len(right))]
}

func (l *life) name() string { return some(l, names()[:6], "A", "") }

func (l *life) id() int { return some(l, ids(), -1, lastId+1) }

func (l *life) pos() int64 { return some(l, []int64{0, int64(l.roll(500)), lastPos}, lastPos+1, -1) }

func (l *life) time() int64 {
	l.now += int64(l.roll(3))
	return some(l, []int64{l.now, l.now, l.now / 2}, -1, lastTime+1)
}

// gen is the newest generation of a group, or one of its neighbours.
func (l *life) gen(name string) int64 {
	return max(last(l.w.s.newest(), name, ""), 0) + []int64{0, 0, 0, 0, 0, 0, -1, 1}[l.roll(8)]
}

func (l *life) step() {
	switch l.roll(20) {
	case 0, 1, 2:
		_, e := l.w.join(l.t, l.time(), l.name())
		l.told[fmt.Sprint("Join ", e)]++
	case 3, 4, 5, 6, 7, 8:
		name := l.name()
		e := l.w.set(l.t, l.time(), name, l.gen(name), l.id(), l.pos())
		l.told[fmt.Sprint("Set ", e)]++
	case 9:
		n, e := l.w.forget(l.t, l.time(), l.id())
		l.told[fmt.Sprint("Forget ", min(n, 1), " ", e)]++
	case 10, 11:
		l.told[fmt.Sprint("Commit ", l.w.commit(l.t))]++
	case 12:
		l.w.topics(func(p *topic.Topic) { p.Roll() })
	case 13, 14:
		l.w.merge(l.now, []int{l.roll(30), 1000}[l.roll(2)])
	case 15:
		room := []int{reserve + l.roll(60), 4*reserve + l.roll(400), 1 << 20}[l.roll(3)]
		l.w.disks(func(d *simfs.Disk) { d.SetQuota(d.Used() + room) })
	case 16:
		if l.roll(6) == 0 {
			fuse := l.roll(40)
			l.w.disks(func(d *simfs.Disk) { d.Fuse(fuse) })
		}
	default:
		if l.w.p.Disk().Dead() || l.roll(25) == 0 {
			l.crash()
		}
	}
	l.w.same(l.t, "a step")
	l.note()
}

// note sees to it that no committed generation goes back.
func (l *life) note() {
	for _, name := range names() {
		gen, _, _ := l.w.g.Generation(name)
		if gen < l.firm[name] {
			l.t.Errorf("15.9: %s has the generation %d behind %d", name, gen, l.firm[name])
		}
		l.firm[name] = gen
	}
}

// crash takes the power, and opens both anew over what is left.
func (l *life) crash() {
	var picks []int
	for range 12 {
		picks = append(picks, l.roll(1000))
	}
	ahead, firm := l.w.s.newest(), len(l.w.s.firm())
	_, p := reopened(l.t, l.w.p.Disk().Crash(picks), l.limit)
	_, other := reopened(l.t, l.w.s.p.Disk().Crash(picks), l.limit)
	l.w = twinsOf(l.t, p, other)
	n := int(p.State().Committed)
	if n < firm || n > len(ahead) {
		l.t.Fatalf("15.10: %d of %d are left, where %d were committed", n, len(ahead), firm)
	}
	want(l.t, "15.10: told", told(l.w.g), tells(ahead[:n], 0))
	l.told["crash"]++
	if n > firm {
		l.told["more is left"]++
	}
	l.w.s.log = ahead[:n] // also what merges have taken out
}

// 15.1 to 15.11, over many things done, against the slow ones.
func TestScripts(t *testing.T) {
	all := map[string]int{}
	for seed := range uint64(60) {
		limit := []int{256, 300, 1024, 65536}[seed%4]
		l := &life{t: t, w: fresh(t, limit), limit: limit, dice: probe.Noise(seed, 20000), firm: map[string]int64{}, told: all}
		for range 250 {
			l.step()
			if t.Failed() {
				t.Fatalf("the script %d", seed)
			}
		}
		l.crash()
	}
	for _, what := range []string{"Join 0", "Join 3", "Join 33", "Join 34", "Join 150", "Set 0", "Set 3", "Set 33", "Set 34", "Set 150", "Set 151", "Set 152", "Set 153", "Forget 0 0", "Forget 1 0", "Forget 0 3", "Forget 0 33", "Forget 1 33", "Forget 0 34", "Commit 0", "Commit 34", "crash", "more is left"} {
		if all[what] < 5 {
			t.Errorf("%s: %d of %v", what, all[what], all)
		}
	}
}
