package catalog_test

import (
	"fmt"
	"slices"
	"testing"

	"chronicle/api"
	"chronicle/catalog"
	"chronicle/probe"
	"chronicle/simfs"
	"chronicle/topic"
)

// life is a store to which many things are done, over crashes and Opens.
type life struct {
	t     *testing.T
	w     twins
	dice  []uint64
	given map[int]string // each number that a topic got, and the name
	under api.TopicEntry // what a Create was to make in which the power went
	told  map[string]int
}

// roll is some number below n.
func (l *life) roll(n int) int {
	x := l.dice[0]
	l.dice = l.dice[1:]
	return int(x >> 20 % uint64(n))
}

func (l *life) name() string {
	return []string{"n00", "n01", "n02", "n03", "n04", "n05", "n06", "n07", "n08", "n09", "n10", "n11", "n13", "n15", "a", "a-1", "z", "-", "A", ""}[l.roll(20)]
}

func (l *life) step() {
	switch l.roll(12) {
	case 0, 1, 2, 3, 4:
		l.create()
	case 5, 6:
		l.drop()
	case 7:
		room := []int{l.roll(60), l.roll(400), 1 << 20}[l.roll(3)]
		l.w.disks(func(d *simfs.Disk) { d.SetQuota(d.Used() + room) })
	case 8, 9:
		l.use()
	case 10:
		if l.roll(3) == 0 {
			fuse := l.roll(25)
			l.w.disks(func(d *simfs.Disk) { d.Fuse(fuse) })
		}
	default:
		if l.w.d.Dead() || l.roll(6) == 0 {
			l.crash()
		}
	}
}

func (l *life) create() {
	name, horizon, now := l.name(), []int64{0, 0, 7, horizons, -1}[l.roll(5)], []int64{0, 0, 5, lastTime + 1}[l.roll(4)]
	topics, room, files := saidBy(l.w.c), l.w.d.Quota()-l.w.d.Used(), len(l.w.d.Image())
	if l.roll(8) == 0 {
		l.w.disks(func(d *simfs.Disk) { d.Fuse(12) }) // it is whole then, and not durable
	}
	id, e := l.w.create(l.t, "a script", name, horizon, now)
	l.told[fmt.Sprint("Create ", e)]++
	switch e {
	case api.OK:
		if was, ok := l.given[id]; ok {
			l.t.Errorf("14.9: the number %d of %s was that of %s", id, name, was)
		}
		l.given[id] = name
	case api.ErrDead:
		want(l.t, "14.10: no power", l.w.d.Dead(), true)
		if l.under == (api.TopicEntry{}) {
			l.under = api.TopicEntry{Id: l.w.s.next, Name: name}
		}
	case api.ErrSpace:
		grown := append(topics, api.TopicEntry{Id: l.w.s.next, Name: name, Limit: 256, Horizon: max(horizon, 100)})
		slices.SortFunc(grown, func(a, b api.TopicEntry) int { return slices.Compare([]byte(a.Name), []byte(b.Name)) })
		need := len(catalogue(l.w.s.next+1, grown...)["catalog"])
		for _, b := range fresh(api.TopicEntry{Id: l.w.s.next, Limit: 256}, now) {
			need += len(b)
		}
		want(l.t, "14.10: room", room < need, true)
	case api.ErrFiles:
		want(l.t, "14.10: files", files > api.MaxFiles-3, true)
	case api.ErrTopicExists:
		want(l.t, "14.10: it is there", slices.ContainsFunc(topics, func(entry api.TopicEntry) bool { return entry.Name == name }), true)
	case api.ErrTopics:
		want(l.t, "14.10: topics", len(topics), 16)
	default:
		want(l.t, "14.10: another reason", name == "A" || name == "" || horizon < 0 || now > lastTime, true)
	}
}

func (l *life) drop() {
	e := l.w.drop(l.t, "a script", l.name())
	l.told[fmt.Sprint("Drop ", e)]++
}

// use writes to some topic.
func (l *life) use() {
	if len(l.w.s.all) == 0 {
		return
	}
	name, kind, key := l.w.s.all[l.roll(len(l.w.s.all))].Name, l.roll(4), fmt.Sprint("key", l.roll(9))
	l.w.topics(l.t, name, func(p *topic.Topic) {
		switch kind {
		case 0:
			p.Roll()
		case 1:
			p.Commit()
		default:
			p.Append(1, api.Write{Key: key, Value: probe.Text(uint64(len(key)), 40)})
		}
	})
	l.w.same(l.t, "used")
}

// crash takes the power, and opens both anew over what is left; the power may go within that, too.
func (l *life) crash() {
	for {
		var picks []int
		for range 12 {
			picks = append(picks, l.roll(1000))
		}
		fuse := []int{-1, -1, l.roll(12)}[l.roll(3)]
		d, other := loaded(l.t, l.w.d.Crash(picks)), loaded(l.t, l.w.s.disk.Crash(picks))
		d.Fuse(fuse)
		other.Fuse(fuse)
		c, e := catalog.Open(d, usual(), 2)
		s, e2 := slowOpen(other, usual(), 2)
		want(l.t, "Open", e, e2)
		alike(l.t, "Open", d, other)
		l.told[fmt.Sprint("Open ", e)]++
		if e == api.OK {
			d.Fuse(-1)
			other.Fuse(-1)
			l.w = twins{c, d, s}
			break
		}
		wantRefused(l.t, "the power goes in Open", c, e, api.ErrDead)
		l.w.d, l.w.s.disk = d, other
	}
	l.w.same(l.t, "opened")
	wantClean(l.t, "opened", l.w.d, l.w.c)
	for _, entry := range saidBy(l.w.c) {
		if entry.Id == l.under.Id && entry.Name == l.under.Name {
			l.given[entry.Id] = entry.Name
			l.told["a Create that was under way"]++
		}
		want(l.t, "a topic that was created", l.given[entry.Id], entry.Name)
	}
	l.under = api.TopicEntry{}
}

// 14.1 to 14.10, over many things done, against the slow catalog.
func TestScripts(t *testing.T) {
	all := map[string]int{}
	for seed := range uint64(30) {
		few := crowd(int(seed % 2 * 16))
		l := &life{t: t, w: twinsOver(t, stored(len(few)+1, few...), usual()), dice: probe.Noise(seed, 20000), given: map[int]string{}, told: all}
		for _, entry := range few {
			l.given[entry.Id] = entry.Name
		}
		for range 160 {
			l.step()
			if t.Failed() {
				t.Fatalf("the script %d", seed)
			}
		}
		l.crash()
	}
	for _, what := range []string{"Create 0", "Create 3", "Create 33", "Create 34", "Create 74", "Create 104", "Create 142", "Create 143", "Drop 0", "Drop 33", "Drop 34", "Drop 141", "Open 0", "Open 34", "a Create that was under way"} {
		if all[what] < 5 {
			t.Errorf("%s: %d of %v", what, all[what], all)
		}
	}
}
