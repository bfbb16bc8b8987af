package broker_test

import (
	"bytes"
	"math"
	"slices"
	"testing"

	"chronicle/api"
	"chronicle/broker"
	"chronicle/catalog"
	"chronicle/cursor"
	"chronicle/group"
	"chronicle/merge"
	"chronicle/quota"
	"chronicle/sched"
	"chronicle/session"
	"chronicle/simfs"
	"chronicle/topic"
	"chronicle/wire"
)

// slow is a broker as the chapter tells it, in plain steps on the layers below.
type slow struct {
	disk    *simfs.Disk
	cfg     api.Config
	clock   int64
	dead    bool
	cat     *catalog.Catalog
	own     *topic.Topic
	groups  *group.Groups
	guests  []*guest // in the order in which they came
	given   int
	turn    int // whose turn it is, by its number
	used    int // how many requests of this turn have been served
	classes api.Classes
	open    []opened // merges, in the order in which they were begun
	told    int      // who was delivered to last
	merged  int      // what was merged last
	work    [4]bool  // of the last step
	count   map[string]int
}

type guest struct {
	number int
	s      *session.Session
	bucket api.Bucket
}

type opened struct {
	id int
	m  *merge.Merge
}

// slowly opens the store of a disk, which has to be one.
func slowly(d *simfs.Disk, cfg api.Config, now int64) (*slow, api.Errno) {
	if _, e := d.Size("catalog"); e != api.OK {
		return nil, e
	}
	c, e := catalog.Open(d, cfg, now)
	if e != api.OK {
		return nil, e
	}
	own, e := topic.Open(d, 0, 65536, 0, now)
	if e != api.OK {
		return nil, e
	}
	g, e := group.New(own)
	if e != api.OK {
		return nil, e
	}
	return &slow{disk: d, cfg: cfg, clock: now, cat: c, own: own, groups: g, merged: -1, count: map[string]int{}}, api.OK
}

func (s *slow) guest(number int) *guest {
	for _, g := range s.guests {
		if g.number == number {
			return g
		}
	}
	return nil
}

func (s *slow) connect() (int, api.Errno) {
	if s.dead {
		return 0, api.ErrDead
	}
	if len(s.guests) == 16 {
		return 0, api.ErrConns
	}
	s.given++
	g := &guest{number: s.given, s: session.New(s.given)}
	g.bucket, _ = quota.New(s.cfg.Num, s.cfg.Den, s.cfg.Burst, s.clock)
	s.guests = append(s.guests, g)
	if len(s.guests) == 1 {
		s.turn, s.used = g.number, 0
	}
	return s.given, api.OK
}

func (s *slow) shut(number int) api.Errno {
	g := s.guest(number)
	if g == nil {
		return api.ErrNoConn
	}
	g.s.Close()
	if s.turn == number {
		s.goOn()
	}
	s.guests = slices.DeleteFunc(s.guests, func(other *guest) bool { return other == g })
	return api.OK
}

// goOn gives the turn to the next one.
func (s *slow) goOn() {
	s.used = 0
	for _, g := range s.guests {
		if g.number > s.turn {
			s.turn = g.number
			return
		}
	}
	s.turn = s.guests[0].number
}

func (s *slow) feed(number int, chunk []byte) (int, api.Errno) {
	if s.dead {
		return 0, api.ErrDead
	}
	g := s.guest(number)
	if g == nil {
		return 0, api.ErrNoConn
	}
	return g.s.Feed(chunk), api.OK
}

func (s *slow) out(number, n int) ([]byte, api.Errno) {
	if s.dead {
		return nil, api.ErrDead
	}
	g := s.guest(number)
	if g == nil {
		return nil, api.ErrNoConn
	}
	if n < 0 {
		return nil, api.ErrArg
	}
	return g.s.Out(n), api.OK
}

// all is the topics, the groups' own one first, then numbers rising.
func (s *slow) all() []*topic.Topic {
	list := []*topic.Topic{s.own}
	for name := range s.cat.Names("") {
		t, _ := s.cat.Topic(name)
		list = append(list, t)
	}
	slices.SortFunc(list, func(a, b *topic.Topic) int { return a.Id() - b.Id() })
	return list
}

func (s *slow) mergeOf(id int) *merge.Merge {
	for _, o := range s.open {
		if o.id == id {
			return o.m
		}
	}
	return nil
}

func (s *slow) forget(id int) {
	s.open = slices.DeleteFunc(s.open, func(o opened) bool { return o.id == id })
}

func (s *slow) hasWork(t *topic.Topic) bool {
	return s.mergeOf(t.Id()) != nil || merge.Due(t.Stats(), s.cfg.Share)
}

func (s *slow) step(now int64, pick int) (api.Did, api.Errno) {
	if s.dead {
		return api.Did{}, api.ErrDead
	}
	if now < 0 || now > lastTime {
		return api.Did{}, api.ErrArg
	}
	s.clock = max(s.clock, now)
	ends := map[int]int64{}
	s.work = [4]bool{}
	for _, t := range s.all() {
		ends[t.Id()] = t.State().Committed
		s.work[1] = s.work[1] || t.State().Pending > 0
		s.work[3] = s.work[3] || s.hasWork(t)
	}
	for _, g := range s.guests {
		s.work[0] = s.work[0] || g.s.State().Inbox > 0
		s.work[2] = s.work[2] || g.s.Ready()
	}
	class := 0
	s.classes, class = sched.Class(s.classes, s.work, pick)
	var d api.Did
	e := api.OK
	switch class {
	case 0:
		d, e = s.request()
	case 1:
		d, e = s.commit()
	case 2:
		d = s.deliver()
	case 3:
		d, e = s.merge()
	}
	if e == api.ErrDead {
		s.dead = true
		return api.Did{}, api.ErrDead
	}
	for _, g := range s.guests {
		for _, t := range s.all() {
			if end := t.State().Committed; end > ends[t.Id()] {
				g.s.Settle(t.Id(), end)
			}
		}
	}
	return d, api.OK
}

func (s *slow) commit() (api.Did, api.Errno) {
	d := api.Did{What: 2}
	for _, t := range s.all() {
		if t.State().Pending == 0 {
			continue
		}
		e := api.OK
		if t == s.own {
			e = s.groups.Commit()
		} else {
			e = t.Commit()
		}
		if e != api.OK {
			return d, e
		}
		d.Count++
	}
	return d, api.OK
}

func (s *slow) deliver() api.Did {
	var first, next *guest
	for _, g := range s.guests {
		if g.s.Ready() && first == nil {
			first = g
		}
		if g.s.Ready() && next == nil && g.number > s.told {
			next = g
		}
	}
	if next == nil {
		next = first
	}
	s.told = next.number
	return api.Did{What: 3, Conn: next.number, Count: next.s.Deliver()}
}

func (s *slow) merge() (api.Did, api.Errno) {
	var first, next *topic.Topic
	for _, t := range s.all() {
		if s.hasWork(t) && first == nil {
			first = t
		}
		if s.hasWork(t) && next == nil && t.Id() > s.merged {
			next = t
		}
	}
	if next == nil {
		next = first
	}
	s.merged = next.Id()
	m := s.mergeOf(next.Id())
	if m == nil {
		begun, e := merge.Start(next)
		if e != api.OK {
			return api.Did{What: 4, Topic: next.Id(), Kind: 10}, e
		}
		m = begun
		s.open = append(s.open, opened{next.Id(), m})
	}
	step, e := m.Step(s.clock)
	if m.Over() {
		s.forget(next.Id())
	}
	if e == api.ErrDead {
		return api.Did{}, e
	}
	s.count["a merge's step"]++
	return api.Did{What: 4, Topic: next.Id(), Kind: step.Kind}, api.OK
}

// request serves whose turn it is: four requests a turn.
func (s *slow) request() (api.Did, api.Errno) {
	for s.used == 4 || s.guest(s.turn).s.State().Inbox == 0 {
		s.goOn()
	}
	g := s.guest(s.turn)
	s.used++
	r, _ := g.s.Next()
	if g.s.State().Inbox == 0 {
		s.goOn()
	}
	var about int
	var e api.Errno
	a, late := api.Response{}, (*api.Owed)(nil)
	wait := int64(0)
	if s.cfg.Num > 0 {
		g.bucket, wait = quota.Take(g.bucket, s.clock, 1)
	}
	if wait != 0 {
		a = api.Response{Code: 7, Number: wait}
	} else {
		about, a, late, e = s.serve(g, r)
	}
	if e == api.ErrDead {
		return api.Did{}, e
	}
	if e != api.OK {
		a, late = api.Response{Code: wire.CodeOf(e)}, nil
	}
	a.Id, a.Op = r.Id, r.Op
	d := api.Did{What: 1, Conn: g.number, Topic: about, Kind: r.Op, Code: a.Code}
	if late != nil {
		late.R = a
		g.s.Owe(*late)
		d.Code = -1
	} else {
		g.s.Send(a)
	}
	return d, api.OK
}

// serve is the chapter's table: the topic's number, the answer, for what it is owed (or nil), and the error of a call.
func (s *slow) serve(g *guest, r api.Request) (int, api.Response, *api.Owed, api.Errno) {
	switch r.Op {
	case api.OpPing:
		return 0, api.Response{}, nil, api.OK
	case api.OpCreate:
		id, e := s.cat.Create(r.Topic, r.Number, s.clock)
		return id, api.Response{Number: int64(id)}, nil, e
	case api.OpList:
		var names []string
		for _, info := range s.cat.List() {
			if len(info.Name) >= len(r.Key) && info.Name[:len(r.Key)] == r.Key {
				names = append(names, info.Name)
			}
		}
		return 0, api.Response{Names: names}, nil, api.OK
	case api.OpUnsubscribe:
		if r.Number > 4294967295 {
			return 0, api.Response{Code: 10}, nil, api.OK
		}
		return 0, api.Response{}, nil, g.s.Unsubscribe(uint32(r.Number))
	case api.OpJoin:
		if g.s.State().Owed == 256 {
			return 0, api.Response{Code: 9}, nil, api.OK
		}
		gen, e := s.groups.Join(s.clock, r.Key)
		return 0, api.Response{Number: gen}, &api.Owed{Topic: 0, Offset: s.own.State().Next - 1}, e
	}
	t, e := s.cat.Topic(r.Topic)
	if e != api.OK {
		return 0, api.Response{Code: 2}, nil, api.OK
	}
	a, late, e := s.serveTopic(g, r, t)
	return t.Id(), a, late, e
}

func (s *slow) serveTopic(g *guest, r api.Request, t *topic.Topic) (api.Response, *api.Owed, api.Errno) {
	state, id := t.State(), t.Id()
	switch r.Op {
	case api.OpDrop:
		if e := s.cat.Drop(r.Topic); e != api.OK {
			return api.Response{}, nil, e
		}
		s.forget(id)
		for _, other := range s.guests {
			other.s.Refuse(id, 2)
			other.s.Gone(id)
		}
		if _, e := s.groups.Forget(s.clock, id); e == api.ErrDead {
			return api.Response{}, nil, e
		}
		return api.Response{}, nil, api.OK
	case api.OpPut, api.OpDelete:
		if g.s.State().Owed == 256 {
			return api.Response{Code: 9}, nil, api.OK
		}
		at, again, e := t.Append(s.clock, api.Write{Key: r.Key, Value: r.Value, Tombstone: r.Op == api.OpDelete, Pid: r.Pid, Seq: r.Seq})
		if again && at < state.Committed {
			return api.Response{Offset: at}, nil, e
		}
		return api.Response{Offset: at}, &api.Owed{Topic: id, Offset: at}, e
	case api.OpGet:
		v, lives, e := t.Get(r.Key)
		if !lives {
			return api.Response{}, nil, e
		}
		return api.Response{Records: []api.Record{v}}, nil, e
	case api.OpReplay, api.OpSubscribe:
		f := cursor.Replay
		if r.Op == api.OpSubscribe {
			f = cursor.Tail
		}
		c, e := f(t, r.Offset)
		if e == api.OK {
			e = g.s.Subscribe(r.Id, id, c)
		}
		return api.Response{Offset: c.Position(), Number: int64(id)}, nil, e
	case api.OpSnapshot:
		p, e := cursor.Prefix(t, r.Key)
		if e == api.OK {
			e = g.s.Hold(r.Id, id, p)
		}
		return api.Response{Offset: p.Moment(), Number: int64(id)}, nil, e
	case api.OpCommit:
		if r.Offset > state.Committed {
			return api.Response{Code: 11}, nil, api.OK
		}
		if g.s.State().Owed == 256 {
			return api.Response{Code: 9}, nil, api.OK
		}
		e := s.groups.Set(s.clock, r.Key, r.Number, id, r.Offset)
		return api.Response{}, &api.Owed{Topic: 0, Offset: s.own.State().Next - 1}, e
	case api.OpPosition:
		at, there, e := s.groups.At(r.Key, id)
		if !there {
			return api.Response{Code: 10}, nil, e
		}
		return api.Response{Offset: at}, nil, e
	}
	return api.Response{Offset: state.Committed, Number: state.Mark}, nil, api.OK
}

func (s *slow) state() api.BrokerState {
	state := api.BrokerState{Conns: len(s.guests), Topics: len(s.cat.List()), Merges: len(s.open), Dead: s.dead}
	for _, t := range s.all() {
		state.Pending += t.State().Pending
	}
	return state
}

// twins is a broker and a slow one, each over a disk of its own with the same on it; whatever is done to both has to be answered alike.
type twins struct {
	t *testing.T
	b *broker.Broker
	d *simfs.Disk
	s *slow
}

// twinsOver opens both over an image; an error is told.
func twinsOver(t *testing.T, image []api.File, cfg api.Config, now int64, fuse int) (twins, api.Errno) {
	t.Helper()
	d, other := loaded(t, image), loaded(t, image)
	d.Fuse(fuse)
	other.Fuse(fuse)
	b, e := broker.Open(d, cfg, now)
	s, e2 := slowly(other, cfg, now)
	want(t, "Open", e, e2)
	alike(t, "Open", d, other)
	if e != api.OK {
		wantRefused(t, "Open", b, e, e2)
		return twins{d: d}, e
	}
	d.Fuse(-1)
	other.Fuse(-1)
	w := twins{t, b, d, s}
	w.same("opened")
	return w, api.OK
}

// disks does the same to both disks.
func (w twins) disks(do func(*simfs.Disk)) {
	do(w.d)
	do(w.s.disk)
}

func (w twins) connect() (int, api.Errno) {
	w.t.Helper()
	n, e := w.b.Connect()
	n2, e2 := w.s.connect()
	want(w.t, "Connect", n, n2)
	want(w.t, "Connect", e, e2)
	return n, e
}

func (w twins) shut(conn int) {
	w.t.Helper()
	want(w.t, "Shut", w.b.Shut(conn), w.s.shut(conn))
}

func (w twins) feed(conn int, chunk []byte) (int, api.Errno) {
	w.t.Helper()
	n, e := w.b.Feed(conn, chunk)
	n2, e2 := w.s.feed(conn, chunk)
	want(w.t, "Feed", n, n2)
	want(w.t, "Feed", e, e2)
	return n, e
}

func (w twins) step(now int64, pick int) (api.Did, api.Errno) {
	w.t.Helper()
	d, e := w.b.Step(now, pick)
	d2, e2 := w.s.step(now, pick)
	want(w.t, "Step", d, d2)
	want(w.t, "Step", e, e2)
	return d, e
}

func (w twins) out(conn, n int) ([]byte, api.Errno) {
	w.t.Helper()
	b, e := w.b.Out(conn, n)
	b2, e2 := w.s.out(conn, n)
	want(w.t, "Out", e, e2)
	if !bytes.Equal(b, b2) {
		w.t.Errorf("Out(%d, %d): %s, want %s", conn, n, tell(b), tell(b2))
	}
	return b, e
}

// same fails unless both tell the same of themselves, and the same lies on their disks.
func (w twins) same(what string) {
	w.t.Helper()
	want(w.t, what+": State", w.b.State(), w.s.state())
	wantList(w.t, what+": Topics", w.b.Topics(), w.s.cat.List())
	alike(w.t, what, w.d, w.s.disk)
}

// sameRecords fails unless both tell the same records of all topics.
func (w twins) sameRecords() {
	w.t.Helper()
	for _, info := range w.b.Topics() {
		recs, e := w.b.Records(info.Name)
		t, _ := w.s.cat.Topic(info.Name)
		recs2, e2 := t.Records()
		want(w.t, "Records", e, e2)
		wantList(w.t, "Records of "+info.Name, recs, recs2)
	}
}

// drain takes all that waits for a client.
func (w twins) drain(conn int) []byte {
	b, _ := w.out(conn, math.MaxInt)
	return b
}
