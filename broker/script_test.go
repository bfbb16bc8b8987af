package broker_test

import (
	"fmt"
	"math"
	"slices"
	"testing"

	"chronicle/api"
	"chronicle/broker"
	"chronicle/probe"
	"chronicle/simfs"
)

// life is a store to which many things are done, over crashes; a slow one goes beside it, and a witness looks on.
type life struct {
	t      *testing.T
	w      twins
	x      *witness
	cfg    api.Config
	now    int64
	dice   []uint64
	names  int // how many names topics have
	lastId uint32
	conns  []int
	gens   map[string]int64
	died   bool
	passed [4]int      // how often each class was passed by in a row while it had work
	hungry map[int]int // how many requests of others were served while one of this connection waited, since a connection came or went
	tight  bool        // there is seldom room on the disk
	mood   int         // what is seldom picked
	count  map[string]int
}

// Moods: so something comes to its bound.
const (
	even    = iota
	writing // requests and commits
	merging // all but deliveries
	idle    // all but requests
	moods
)

func newLife(t *testing.T, seed uint64, count map[string]int) *life {
	t.Helper()
	cfg := api.Config{Limit: 256, Horizon: 5 + int64(seed%5)*10, Share: 30 + int(seed%3)*20}
	if seed%7 == 3 {
		cfg.Num, cfg.Den, cfg.Burst = 1, 6, 9
	}
	d, _ := simfs.New(wide)
	want(t, "Format", broker.Format(d, cfg, 0), api.OK)
	w, e := twinsOver(t, d.Image(), cfg, 0, -1)
	want(t, "Open", e, api.OK)
	l := &life{t: t, w: w, cfg: cfg, dice: probe.Noise(seed+1, 60000), names: 6, gens: map[string]int64{}, hungry: map[int]int{}, count: count}
	if seed%5 == 2 {
		l.names = 20
	}
	l.tight = seed%3 == 1
	l.mood = int(seed) % moods
	l.x = newWitness(t, &l.w, cfg, count)
	for range 3 {
		l.connect()
	}
	for i := range l.names - 2 {
		l.say(1, create(fmt.Sprint("t", i)))
		l.step(0)
	}
	return l
}

// pick is which class is picked.
func (l *life) pick() int {
	picks := [moods][]int{even: {0, 1, 2, 3, -5, 9}, writing: {0, 0, 0, 0, 1}, merging: {0, 0, 1, 3, 3, 3}, idle: {1, 2, 3, 3, 2, 6}}[l.mood]
	return picks[l.roll(len(picks))]
}

// roll is some number below n.
func (l *life) roll(n int) int {
	x := l.dice[0]
	l.dice = l.dice[1:]
	return int(x >> 20 % uint64(n))
}

func (l *life) connect() {
	if n, e := l.w.connect(); e == api.OK {
		l.conns = append(l.conns, n)
		clear(l.hungry)
	} else {
		l.count[fmt.Sprint("Connect ", e)]++
	}
}

func (l *life) conn() int {
	if len(l.conns) == 0 || l.roll(40) == 0 {
		return 99
	}
	return l.conns[l.roll(len(l.conns))]
}

func (l *life) name() string {
	if l.roll(25) == 0 {
		return []string{"Bad", "none"}[l.roll(2)]
	}
	if there := l.w.b.Topics(); len(there) > 0 && l.roll(4) > 0 {
		return there[l.roll(len(there))].Name
	}
	return fmt.Sprint("t", l.roll(l.names))
}

func (l *life) key() string {
	if l.roll(60) == 0 {
		return ""
	}
	return fmt.Sprint("k", l.roll(9))
}

func (l *life) group() string {
	if l.roll(30) == 0 {
		return "Bad"
	}
	return []string{"g", "h", "i"}[l.roll(3)]
}

// request is some request.
func (l *life) request() api.Request {
	name := l.name()
	end := int64(0)
	if s := l.x.named(name); s != nil {
		end = int64(len(s.log))
	}
	switch l.roll(30) {
	case 0:
		return ping()
	case 1:
		return api.Request{Op: api.OpCreate, Topic: name, Number: []int64{0, 0, 20, horizons}[l.roll(4)]}
	case 3:
		if l.roll(3) == 0 {
			return drop(name)
		}
		return create(name)
	case 4:
		return api.Request{Op: api.OpList, Key: []string{"", "t", "t1", "x"}[l.roll(4)]}
	case 2, 5, 6, 7, 8, 9, 24, 25:
		return l.produced(put(name, l.key(), probe.Text(uint64(l.roll(1000)), l.roll(2)*l.roll(100))))
	case 10, 11, 12, 26:
		return l.produced(remove(name, l.key()))
	case 13:
		return get(name, l.key())
	case 14:
		return replay(name, int64(l.roll(int(end)+2)))
	case 15, 29:
		return snapshot(name, []string{"", "k", "k1"}[l.roll(3)])
	case 16, 17, 27, 28:
		return subscribe(name, int64(l.roll(int(end)+2)))
	case 18:
		ids := slices.Sorted(func(yield func(uint32) bool) {
			for n := range l.x.readers {
				if !yield(n) {
					return
				}
			}
		})
		if len(ids) == 0 || l.roll(4) == 0 {
			return api.Request{Op: api.OpUnsubscribe, Number: int64(l.roll(9)) * math.MaxUint32}
		}
		return api.Request{Op: api.OpUnsubscribe, Number: int64(ids[l.roll(len(ids))])}
	case 19:
		return join(l.group())
	case 20, 21:
		g := l.group()
		gen := l.x.state(len(l.x.groups))[change{group: g, topic: -1}]
		return reach(g, name, max(gen-int64(l.roll(5)/4), 0), int64(l.roll(int(end)+2)))
	case 22:
		return position(l.group(), name)
	}
	return stat(name)
}

// produced is a write by a producer, or by none.
func (l *life) produced(r api.Request) api.Request {
	pid := int64(max(l.roll(6)-3, 0))
	s := l.x.named(r.Topic)
	if pid == 0 || s == nil {
		return r
	}
	if l.roll(40) == 0 {
		return by(1<<32, 1, r)
	}
	return by(pid, max(s.last(pid).Seq+int64(l.roll(6)/4)+int64(l.roll(8)/7)*2, 1), r)
}

// say feeds a request in two pieces.
func (l *life) say(conn int, r api.Request) {
	l.lastId++
	r.Id = l.lastId
	b := frame(l.t, r)
	cut := l.roll(len(b) + 1)
	n, e := l.w.feed(conn, b[:cut])
	m, _ := l.w.feed(conn, b[cut:])
	if e != api.OK {
		l.count[fmt.Sprint("Feed ", e)]++
		return
	}
	l.x.asked[r.Id] = r
	if n+m == 1 {
		l.x.waiting[conn] = append(l.x.waiting[conn], r)
	} else {
		l.count["the inbox is full"]++
	}
}

// babble feeds a frame that is spoilt.
func (l *life) babble(conn int) {
	b := frame(l.t, l.request())
	b[5+l.roll(len(b)-5)] ^= byte(1 << l.roll(8))
	n, e := l.w.feed(conn, b)
	want(l.t, "a spoilt frame", n, 0)
	l.count[fmt.Sprint("Feed of a spoilt frame ", e)]++
}

// step makes a step.
func (l *life) step(pick int) {
	if l.roll(3) == 0 {
		l.now += int64(l.roll(4))
	}
	now := max(l.now-int64(l.roll(3)), 0)
	var waits []int
	for _, g := range l.w.s.guests {
		if g.s.State().Inbox > 0 {
			waits = append(waits, g.number)
		}
	}
	f := l.x.facts()
	l.x.clock = max(l.x.clock, now)
	d, e := l.w.step(now, pick)
	l.count[fmt.Sprint("Step ", e)]++
	if e != api.OK {
		if e == api.ErrDead && !l.died {
			l.died = true
			l.mourn(f)
		}
		return
	}
	l.fair(d, waits)
	if d.What == api.DidMerge {
		l.count[fmt.Sprint("merge ", d.Kind)]++
	}
	l.x.did(d, f)
}

// fair holds a step against 20.16.
func (l *life) fair(d api.Did, waits []int) {
	for class, has := range l.w.s.work {
		l.passed[class]++
		if !has || d.What == class+1 {
			l.passed[class] = 0
		}
		if l.passed[class] > patience {
			l.t.Errorf("20.16: the class %d was passed by %d times", class, l.passed[class])
		}
	}
	if d.What != api.DidRequest {
		return
	}
	for conn := range l.hungry {
		if !slices.Contains(waits, conn) {
			delete(l.hungry, conn)
		}
	}
	for _, conn := range waits {
		l.hungry[conn]++
		if l.hungry[conn] > 4*maxConns {
			l.t.Errorf("20.16: the connection %d waits while %d requests are served", conn, l.hungry[conn])
		}
	}
	l.hungry[d.Conn] = 0
}

// mourn adds what a drop in which the power went has appended for the groups.
func (l *life) mourn(f facts) {
	n := int(l.w.s.own.State().Next - f.own)
	for id, s := range l.x.stories {
		if _, e := l.w.s.cat.ById(id); e != api.OK && n > 0 {
			l.x.forgotten(s.id, n)
			l.count["forgotten by half"]++
			return
		}
	}
}

// take takes bytes for a client.
func (l *life) take(conn, n int) {
	b, e := l.w.out(conn, n)
	if e == api.OK {
		l.x.heard(conn, b)
	}
}

func (l *life) act() {
	switch what := l.roll(40); {
	case what < 17:
		conn := l.conn()
		for range l.roll(7) * (1 + l.mood/idle) {
			l.say(conn, l.request())
		}
	case what < 28:
		for range l.roll(12) {
			l.step(l.pick())
		}
	case what < 32:
		l.take(l.conn(), []int{0, 7, 300, -1, math.MaxInt, math.MaxInt}[l.roll(6)])
	case what == 32:
		l.babble(l.conn())
	case what == 33 || what == 38:
		l.connect()
	case what == 34:
		if l.roll(2) == 0 {
			l.shut(l.conn())
		}
	case what == 35:
		room := []int{wide, wide, 5000 + l.roll(400)}[l.roll(3)]
		if l.tight {
			room = []int{wide, 4096 + l.roll(400), l.roll(90), 4096 + l.roll(60)}[l.roll(4)]
		}
		l.w.disks(func(d *simfs.Disk) { d.SetQuota(min(d.Used()+room, wide)) })
	case what == 36:
		if l.roll(2) == 0 {
			fuse := l.roll([]int{60, 12}[l.roll(2)])
			l.w.disks(func(d *simfs.Disk) { d.Fuse(fuse) })
		}
	case what == 37:
		l.w.sameRecords()
	default:
		if l.roll(100) == 0 {
			l.crash()
		}
	}
	if l.died && l.roll(4) == 0 {
		l.crash()
	}
	want(l.t, "State", l.w.b.State(), l.w.s.state())
	if l.roll(4) == 0 {
		l.w.same("a script")
	}
}

func (l *life) shut(conn int) {
	l.w.shut(conn)
	l.x.shut(conn)
	clear(l.hungry)
	l.conns = slices.DeleteFunc(l.conns, func(n int) bool { return n == conn })
}

// crash takes the power, and opens the store anew over what is left; the power may go within that, too.
func (l *life) crash() {
	for {
		var picks []int
		for range 20 {
			picks = append(picks, l.roll(1000))
		}
		picks = picks[:l.roll(21)]
		fuse := []int{-1, -1, l.roll(12)}[l.roll(3)]
		w, e := twinsOver(l.t, l.w.d.Crash(picks), l.cfg, l.now, fuse)
		l.count[fmt.Sprint("Open ", e)]++
		if e == api.OK {
			l.w = w
			break
		}
		want(l.t, "the power goes in Open", e, api.ErrDead)
		l.w.d = w.d
	}
	l.x.clock = l.now
	l.x.reopened(l.died)
	l.died, l.passed, l.conns, l.hungry = false, [4]int{}, nil, map[int]int{}
	for range 1 + l.roll(4) {
		l.connect()
	}
}

// end reads all topics from 0 on, with nothing written in between (P3).
func (l *life) end() {
	l.crash()
	conn := l.conns[0]
	left := map[uint32][]api.Record{}
	whose := map[uint32]*story{}
	for _, s := range l.x.stories {
		l.say(conn, replay(s.name, 0))
		whose[l.lastId] = s
		if len(whose) == 6 {
			break
		}
	}
	for range 5000 {
		l.now += 50 // of connections that are throttled
		d, e := l.w.step(l.now, l.roll(4))
		want(l.t, "Step", e, api.OK)
		if d.What == api.DidNothing {
			break
		}
	}
	list, _ := read(l.w.drain(conn))
	for _, a := range list {
		want(l.t, "P3: a replay", a.Code, api.CodeOK)
		left[a.Id] = append(left[a.Id], a.Records...)
	}
	l.x.clock = l.now
	for id, s := range whose {
		l.x.folds(s, left[id])
		l.count["a whole replay"]++
	}
}

// 20.3 to 20.18, P1 to P4, P7, P8, over many things done, against the slow broker and the witness.
func TestScripts(t *testing.T) {
	count := map[string]int{}
	for seed := range uint64(75) {
		l := newLife(t, seed, count)
		for i := range 500 {
			l.act()
			if t.Failed() {
				t.Fatalf("the script %d, at %d", seed, i)
			}
		}
		l.end()
		if t.Failed() {
			t.Fatalf("the script %d, at its end", seed)
		}
	}
	for what, least := range map[string]int{
		"Step 0": 10000, "Step 34": 100, "Open 0": 200, "Open 34": 50, "Connect 200": 10, "Connect 34": 10, "Feed 201": 100, "Feed 34": 100,
		"a complaint": 100, "the inbox is full": 100, "acknowledged": 1000, "again: -1": 10, "again: 0": 50, "lost, and not acknowledged": 30,
		"a drop that was under way": 1,
		"a piece":                   1000, "a snapshot": 100, "a replay": 100, "a whole replay": 200, "passed": 1, "owed, and dropped": 10, "read, and dropped": 10,
	} {
		if count[what] < least {
			t.Errorf("%s: seen %d times, want %d and more", what, count[what], least)
		}
	}
	for kind := range 11 {
		if what := fmt.Sprint("merge ", kind); count[what] < 20 {
			t.Errorf("%s: seen %d times", what, count[what])
		}
	}
	// Each operation, and each code that it may be answered with here (-1: it is owed).
	for op, codes := range map[int][]int{
		1: {0, 7}, 2: {0, 1, 3, 4, 7, 9}, 3: {0, 2, 4, 7}, 4: {0, 7}, 5: {-1, 0, 1, 2, 4, 7, 8}, 6: {-1, 0, 1, 2, 4, 7, 8}, 7: {0, 1, 2, 7},
		8: {0, 2, 6, 7, 9, 11}, 9: {0, 2, 7}, 10: {0, 2, 6, 7, 9, 11}, 11: {0, 7, 10}, 12: {-1, 1, 4, 7}, 13: {-1, 1, 2, 4, 7, 8, 10, 11},
		14: {0, 1, 2, 7, 10}, 15: {0, 2, 7},
	} {
		for _, code := range codes {
			if count[fmt.Sprintf("%d: %d", op, code)] == 0 {
				t.Errorf("the operation %d was never answered with %d", op, code)
			}
		}
	}
	t.Log(count)
}
