package broker_test

import (
	"fmt"
	"maps"
	"math"
	"slices"
	"strings"
	"testing"

	"chronicle/api"
	"chronicle/cursor"
	"chronicle/group"
	"chronicle/record"
	"chronicle/topic"
)

// witness knows what was asked of a store and what was told, and nothing of how it is done: it holds the answers against the promises of the whole.
type witness struct {
	t        *testing.T
	w        *twins // the broker is asked what it tells of itself; the slow one for facts that no call of the broker tells
	cfg      api.Config
	clock    int64
	stories  map[int]*story        // topics that are there, by their numbers
	used     map[int]string        // all numbers that topics ever had
	waiting  map[int][]api.Request // that have joined a connection's inbox
	asked    map[uint32]api.Request
	promised map[uint32]promise      // by ids of requests: what is acknowledged by a good answer
	expected map[uint32]api.Response // answers that are known ahead
	readers  map[uint32]*reading
	groups   []change // the log of the groups' own topic
	firm     int      // how many of them were committed
	half     map[int][]byte
	count    map[string]int
}

// story is a topic's log: all that was appended; the first ones are committed.
type story struct {
	id      int
	name    string
	horizon int64
	log     []api.Record
	firm    int64 // so many were committed, or acknowledged
}

type promise struct {
	topic  int
	answer api.Response
}

// reading is what a client has made of what it was delivered.
type reading struct {
	conn, topic int
	op          int
	at          int64
	made        []api.Pair
	prefix      string
	moment      int64
}

// change is a record of the groups: a generation (topic -1), or a position; or that there is none any more.
type change struct {
	group string
	topic int
	n     int64
	gone  bool
}

func newWitness(t *testing.T, w *twins, cfg api.Config, count map[string]int) *witness {
	x := &witness{t: t, w: w, cfg: cfg, stories: map[int]*story{}, used: map[int]string{}, asked: map[uint32]api.Request{}, count: count}
	x.clear()
	return x
}

// clear forgets what hangs on connections.
func (x *witness) clear() {
	x.waiting, x.half = map[int][]api.Request{}, map[int][]byte{}
	x.promised, x.expected, x.readers = map[uint32]promise{}, map[uint32]api.Response{}, map[uint32]*reading{}
}

// shut forgets what hangs on one connection.
func (x *witness) shut(conn int) {
	delete(x.waiting, conn)
	delete(x.half, conn)
	maps.DeleteFunc(x.readers, func(_ uint32, r *reading) bool { return r.conn == conn })
}

// info is what the broker tells of a topic.
func (x *witness) info(id int) api.TopicInfo {
	for _, info := range x.w.b.Topics() {
		if info.Id == id {
			return info
		}
	}
	return api.TopicInfo{}
}

// known is the committed log of a topic.
func (x *witness) known(s *story) []api.Record { return s.log[:x.info(s.id).Next] }

func (x *witness) named(name string) *story {
	for _, s := range x.stories {
		if s.name == name {
			return s
		}
	}
	return nil
}

// last is the last record that a producer has in a log.
func (s *story) last(pid int64) api.Record {
	for _, r := range slices.Backward(s.log) {
		if r.Pid == pid {
			return r
		}
	}
	return api.Record{}
}

// facts is what stood ahead of a step.
type facts struct {
	room, topics int
	appended     int64
	own          int64
	ends, marks  map[string]int64
	segs         map[string]int
	owed         map[int]int
	subs, snaps  map[int]int
}

func (x *witness) facts() facts {
	f := facts{room: x.w.d.Quota() - x.w.d.Used(), ends: map[string]int64{}, marks: map[string]int64{}, segs: map[string]int{}, owed: map[int]int{}, subs: map[int]int{}, snaps: map[int]int{}}
	f.topics = len(x.w.b.Topics())
	for _, info := range x.w.b.Topics() {
		p, _ := x.w.s.cat.Topic(info.Name)
		f.ends[info.Name], f.segs[info.Name], f.marks[info.Name] = info.Next, info.Segs, p.State().Mark
	}
	for _, p := range x.w.s.all() {
		f.appended += p.State().Next
	}
	f.own = x.w.s.own.State().Next
	for _, g := range x.w.s.guests {
		state := g.s.State()
		f.owed[g.number], f.subs[g.number], f.snaps[g.number] = state.Owed, state.Subs, state.Snaps
	}
	return f
}

// did is told of a step.
func (x *witness) did(d api.Did, f facts) {
	switch d.What {
	case api.DidCommit:
		x.firm = len(x.groups)
		for _, s := range x.stories {
			s.firm = int64(len(s.log))
		}
	case api.DidRequest:
		r := x.waiting[d.Conn][0]
		x.waiting[d.Conn] = x.waiting[d.Conn][1:]
		want(x.t, "the operation", d.Kind, r.Op)
		x.count[fmt.Sprintf("%d: %d", r.Op, d.Code)]++
		if d.Code > 0 {
			x.refused(d, r, f)
			return
		}
		x.served(d, r, f)
	}
}

// served is told of a request that was not refused.
func (x *witness) served(d api.Did, r api.Request, f facts) {
	s := x.stories[d.Topic]
	switch r.Op {
	case api.OpCreate:
		x.created(d.Topic, r)
	case api.OpPing:
		x.expected[r.Id] = api.Response{}
	case api.OpDrop:
		x.expected[r.Id] = api.Response{}
		delete(x.stories, d.Topic)
		x.forgotten(d.Topic, int(x.w.s.own.State().Next-f.own))
	case api.OpPut, api.OpDelete:
		x.written(d, r, s)
	case api.OpGet:
		a := api.Response{}
		for _, pair := range cursor.Fold(nil, x.known(s)) {
			if pair.Key == r.Key {
				a.Records = []api.Record{s.log[pair.Off]}
			}
		}
		x.expected[r.Id] = a
	case api.OpList:
		a := api.Response{}
		for _, s := range x.stories {
			if strings.HasPrefix(s.name, r.Key) {
				a.Names = append(a.Names, s.name)
			}
		}
		slices.Sort(a.Names)
		x.expected[r.Id] = a
	case api.OpStat:
		x.expected[r.Id] = api.Response{Offset: f.ends[r.Topic], Number: f.marks[r.Topic]}
	case api.OpReplay, api.OpSubscribe:
		x.expected[r.Id] = api.Response{Offset: r.Offset, Number: int64(s.id)}
		x.readers[r.Id] = &reading{conn: d.Conn, topic: s.id, op: r.Op, at: r.Offset, made: cursor.Fold(nil, s.log[:r.Offset]), moment: f.ends[r.Topic]}
	case api.OpSnapshot:
		x.expected[r.Id] = api.Response{Offset: f.ends[r.Topic], Number: int64(s.id)}
		x.readers[r.Id] = &reading{conn: d.Conn, topic: s.id, op: r.Op, prefix: r.Key, moment: f.ends[r.Topic]}
	case api.OpUnsubscribe:
		x.expected[r.Id] = api.Response{}
		delete(x.readers, uint32(r.Number))
	case api.OpJoin:
		gen := x.state(len(x.groups))[change{group: r.Key, topic: -1}] + 1
		x.groups = append(x.groups, change{r.Key, -1, gen, false})
		x.promised[r.Id] = promise{0, api.Response{Number: gen}}
	case api.OpCommit:
		want(x.t, "P8: of the last generation", r.Number, x.state(len(x.groups))[change{group: r.Key, topic: -1}])
		x.groups = append(x.groups, change{r.Key, s.id, r.Offset, false})
		x.promised[r.Id] = promise{0, api.Response{}}
	case api.OpPosition:
		at, there := x.state(int(x.w.s.own.State().Committed))[change{group: r.Key, topic: s.id}]
		want(x.t, "P8: there is a position", there, true)
		x.expected[r.Id] = api.Response{Offset: at}
	}
}

func (x *witness) created(id int, r api.Request) {
	if was, ok := x.used[id]; ok {
		x.t.Errorf("the number %d of %s was that of %s", id, r.Topic, was)
	}
	x.used[id] = r.Topic
	s := &story{id: id, name: r.Topic, horizon: r.Number}
	if s.horizon == 0 {
		s.horizon = x.cfg.Horizon
	}
	x.stories[id] = s
	x.expected[r.Id] = api.Response{Number: int64(id)}
}

// forgotten adds the first n of the tombstones of a topic's positions.
func (x *witness) forgotten(id, n int) {
	var names []string
	for c := range x.state(len(x.groups)) {
		if c.topic == id {
			names = append(names, c.group)
		}
	}
	slices.Sort(names)
	for _, name := range names[:n] {
		x.groups = append(x.groups, change{name, id, 0, true})
	}
}

// state is what the first n changes of the groups come to.
func (x *witness) state(n int) map[change]int64 {
	state := map[change]int64{}
	for _, c := range x.groups[:n] {
		whose := change{group: c.group, topic: c.topic}
		state[whose] = c.n
		if c.gone {
			delete(state, whose)
		}
	}
	return state
}

// written is told of a write that was taken, or was there already.
func (x *witness) written(d api.Did, r api.Request, s *story) {
	was := s.last(r.Pid)
	again := r.Pid > 0 && was.Pid == r.Pid && was.Seq == r.Seq
	offset := was.Offset
	if !again {
		offset = int64(len(s.log))
		kind := api.KValue
		if r.Op == api.OpDelete {
			kind = api.KTombstone
		}
		s.log = append(s.log, api.Record{Kind: kind, Offset: offset, Time: x.clock, Pid: r.Pid, Seq: r.Seq, Key: r.Key, Value: r.Value})
		want(x.t, "a new record is owed", d.Code, -1)
	}
	want(x.t, "sent at once, if it is committed", d.Code == 0, offset < x.info(s.id).Next)
	if again {
		x.count[fmt.Sprint("again: ", d.Code)]++
	}
	x.promised[r.Id] = promise{s.id, api.Response{Offset: offset}}
}

// refused holds a refusal against its reason (P7, 20.17).
func (x *witness) refused(d api.Did, r api.Request, f facts) {
	s := x.named(r.Topic)
	right := false
	writes := slices.Contains([]int{api.OpPut, api.OpDelete, api.OpJoin, api.OpCommit}, r.Op)
	switch d.Code {
	case api.CodeNoTopic:
		right = s == nil
	case api.CodeExists:
		right = s != nil && r.Op == api.OpCreate
	case api.CodeFull:
		size := record.Size(api.Record{Kind: api.KValue, Time: x.clock, Pid: r.Pid, Seq: r.Seq, Key: r.Key + "p..123456789", Value: r.Value})
		right = f.room-size < api.Reserve || writes && f.segs[r.Topic] == 64
	case api.CodeTooMany:
		right = r.Op == api.OpCreate && f.topics == 16 || writes && f.owed[d.Conn] == 256 ||
			(r.Op == api.OpReplay || r.Op == api.OpSubscribe) && f.subs[d.Conn] == 8 || r.Op == api.OpSnapshot && f.snaps[d.Conn] == 4
	case api.CodeSequence:
		right = r.Pid > 0 && s.last(r.Pid).Seq != r.Seq-1 || r.Op == api.OpCommit && x.state(len(x.groups))[change{group: r.Key, topic: -1}] != r.Number
	case api.CodeBeyond:
		right = r.Offset > f.ends[r.Topic]
	case api.CodeHorizonPassed:
		right = 0 < r.Offset && r.Offset < f.marks[r.Topic]
	case api.CodeThrottled:
		right = x.cfg.Num > 0
	case api.CodeNoSuch:
		switch r.Op {
		case api.OpUnsubscribe:
			reader := x.readers[uint32(r.Number)]
			right = reader == nil || r.Number > math.MaxUint32 || reader.conn != d.Conn || x.w.s.guest(d.Conn).s.State().Outbox > 0 // it may have ended, which was not heard yet
		case api.OpPosition:
			_, there := x.state(int(x.w.s.own.State().Committed))[change{group: r.Key, topic: s.id}]
			right = !there
		case api.OpCommit:
			right = x.state(len(x.groups))[change{group: r.Key, topic: -1}] == 0
		}
	case api.CodeBadRequest:
		right = r.Key == "" || r.Key == "Bad" || r.Topic == "Bad" || r.Pid >= 1<<32
	}
	if !right {
		x.t.Errorf("P7: %s is refused with %d: %+v", short(r), d.Code, f)
	}
	want(x.t, "20.17: records that were appended", x.facts().appended, f.appended)
	x.expected[r.Id] = api.Response{Code: d.Code}
}

// heard is told of bytes that a client was sent.
func (x *witness) heard(conn int, b []byte) {
	list, rest := read(append(x.half[conn], b...))
	x.half[conn] = rest
	for _, a := range list {
		if a.Op == api.OpDeliver {
			x.delivered(conn, a)
			continue
		}
		x.answered(a)
	}
}

// answered is told of an answer.
func (x *witness) answered(a api.Response) {
	r, was := x.asked[a.Id]
	if !was {
		want(x.t, "a complaint", fmt.Sprint(a), fmt.Sprint(answer(0, api.OpPing, api.CodeBadRequest)))
		x.count["a complaint"]++
		return
	}
	want(x.t, "the operation", a.Op, r.Op)
	delete(x.asked, a.Id)
	if e, ok := x.expected[a.Id]; ok {
		if a.Code == api.CodeThrottled {
			e.Number = a.Number
		}
		e.Id, e.Op = a.Id, a.Op
		want(x.t, "P1: the answer to "+short(r), fmt.Sprintf("%+q", fmt.Sprint(a)), fmt.Sprintf("%+q", fmt.Sprint(e)))
		return
	}
	p, ok := x.promised[a.Id]
	if !ok {
		return // the inbox had no room, or there is nothing to be told
	}
	delete(x.promised, a.Id)
	if a.Code == api.CodeNoTopic {
		want(x.t, "P7: it was dropped", x.stories[p.topic] == nil && p.topic > 0, true)
		x.count["owed, and dropped"]++
		return
	}
	p.answer.Id, p.answer.Op = a.Id, a.Op
	want(x.t, "P1: what was owed", fmt.Sprint(a), fmt.Sprint(p.answer))
	x.count["acknowledged"]++
	if s := x.stories[p.topic]; s != nil { // 20.18
		want(x.t, "20.18: it is committed", x.info(s.id).Next > a.Offset, true)
		s.firm = max(s.firm, a.Offset+1)
	}
}

// delivered is told of a delivery (P4).
func (x *witness) delivered(conn int, a api.Response) {
	r := x.readers[a.Id]
	if r == nil || r.conn != conn {
		if r == nil && a.Code == api.CodeOK { // it was ended by its client, behind what it had been sent
			return
		}
		x.count["a reader that is not known"]++
		return
	}
	s := x.stories[r.topic]
	if a.Code != api.CodeOK || !a.More {
		delete(x.readers, a.Id)
	}
	switch {
	case a.Code == api.CodeNoTopic:
		want(x.t, "P7: it was dropped", s == nil, true)
		x.count["read, and dropped"]++
	case a.Code == api.CodeHorizonPassed:
		want(x.t, "P4: no records", len(a.Records), 0)
		want(x.t, "P4: passed", 0 < r.at && (s == nil || r.at < x.facts().marks[s.name]), true)
		x.count["passed"]++
	case a.Code != api.CodeOK:
		want(x.t, "a reader without power", x.w.d.Dead(), true)
	case s == nil: // it has been dropped since
	case r.op == api.OpSnapshot:
		x.pictured(r, s, a)
	default:
		x.readOn(r, s, a)
	}
}

// pictured is told of a piece of a snapshot.
func (x *witness) pictured(r *reading, s *story, a api.Response) {
	want(x.t, "its moment", a.Offset, r.moment)
	r.made = append(r.made, pairs(a.Records)...)
	if a.More {
		return
	}
	var right []api.Pair
	for _, pair := range cursor.Fold(nil, s.log[:r.moment]) {
		if strings.HasPrefix(pair.Key, r.prefix) {
			right = append(right, pair)
		}
	}
	wantList(x.t, "a snapshot", r.made, right)
	x.count["a snapshot"]++
}

func pairs(recs []api.Record) []api.Pair {
	var list []api.Pair
	for _, r := range recs {
		list = append(list, api.Pair{Key: r.Key, Value: r.Value, Off: r.Offset, Time: r.Time})
	}
	return list
}

// readOn is told of a piece of a replay or of a subscription.
func (x *witness) readOn(r *reading, s *story, a api.Response) {
	log := x.known(s)
	for _, rec := range a.Records {
		if rec.Offset < r.at || rec.Offset >= a.Offset || rec.Offset >= int64(len(log)) {
			x.t.Fatalf("P4: %s at %d, up to %d", short(rec), r.at, a.Offset)
		}
		want(x.t, "P4: a record of L", rec, log[rec.Offset])
		r.at = rec.Offset + 1
	}
	r.at = a.Offset
	r.made = cursor.Fold(r.made, a.Records)
	x.right(r, log)
	x.count["a piece"]++
	if !a.More {
		want(x.t, "a replay's end", a.Offset, r.moment)
		x.count["a replay"]++
	}
}

// right fails unless a reader knows of each key whose last record it has passed what the log tells of it (P4).
func (x *witness) right(r *reading, log []api.Record) {
	last := map[string]int64{}
	for _, rec := range log {
		last[rec.Key] = rec.Offset
	}
	passed := func(p api.Pair) bool { return last[p.Key] >= r.at }
	wantList(x.t, "P4: what a reader makes of it", slices.DeleteFunc(slices.Clone(r.made), passed), slices.DeleteFunc(cursor.Fold(nil, log), passed))
}

// reopened holds a store that was opened behind a crash against what was promised (P2, P3, P8). In the last step, if the power went in it, one of some requests was under way.
func (x *witness) reopened(died bool) {
	under := map[string]api.Request{}
	if died {
		for _, list := range x.waiting {
			if len(list) > 0 && (list[0].Op == api.OpCreate || list[0].Op == api.OpDrop) {
				under[fmt.Sprint(list[0].Op, list[0].Topic)] = list[0]
			}
		}
	}
	there := map[int]string{}
	for _, info := range x.w.b.Topics() {
		there[info.Id] = info.Name
		if x.stories[info.Id] == nil {
			r, was := under[fmt.Sprint(api.OpCreate, info.Name)]
			if !was {
				x.t.Fatalf("P2: nobody created %s", info.Name)
			}
			x.created(info.Id, r)
			x.count["a creation that was under way"]++
		}
		x.continued(info)
	}
	for id, s := range x.stories {
		if there[id] == s.name {
			continue
		}
		if _, was := under[fmt.Sprint(api.OpDrop, s.name)]; !was {
			x.t.Fatalf("P2: %s is missing", s.name)
		}
		delete(x.stories, id)
		x.count["a drop that was under way"]++
	}
	x.groupsGoOn()
	x.clear()
}

// continued holds a topic's log against what had been appended, and goes on with what is left (P2, P3).
func (x *witness) continued(info api.TopicInfo) {
	s := x.stories[info.Id]
	if info.Next < s.firm || info.Next > int64(len(s.log)) {
		x.t.Fatalf("P2: %s ends at %d; %d were committed, %d appended", s.name, info.Next, s.firm, len(s.log))
	}
	if info.Next < int64(len(s.log)) {
		x.count["lost, and not acknowledged"]++
	}
	s.log = s.log[:info.Next]
	s.firm = info.Next
	recs, e := x.w.b.Records(s.name)
	want(x.t, "Records", e, api.OK)
	x.folds(s, recs)
}

// folds holds what a replay from 0 tells against the log (P3).
func (x *witness) folds(s *story, recs []api.Record) {
	at := int64(-1)
	told := map[int64]int{}
	for _, r := range recs {
		if r.Offset <= at || r.Offset >= int64(len(s.log)) || r != s.log[r.Offset] {
			x.t.Fatalf("P3: %s is none of the log, or not behind %d", short(r), at)
		}
		at = r.Offset
		told[at]++
	}
	last := map[string]api.Record{}
	for _, r := range s.log {
		last[r.Key] = r
	}
	for _, r := range last {
		young := r.Kind == api.KValue || x.clock < r.Time+s.horizon
		if young && told[r.Offset] == 0 {
			x.t.Errorf("P3: %s is missing in %s", short(r), s.name)
		}
	}
	wantList(x.t, "P3: the fold", cursor.Fold(nil, recs), cursor.Fold(nil, s.log))
}

// groupsGoOn holds the groups against what had been appended for them (P8).
func (x *witness) groupsGoOn() {
	p, e := topic.Open(loaded(x.t, x.w.d.Image()), 0, 65536, 0, 0)
	want(x.t, "Open", e, api.OK)
	n := int(p.State().Committed)
	if n < x.firm || n > len(x.groups) {
		x.t.Fatalf("P8: %d changes of groups; %d were committed, %d appended", n, x.firm, len(x.groups))
	}
	x.groups, x.firm = x.groups[:n], n
	g, e := group.New(p)
	want(x.t, "New", e, api.OK)
	got := map[change]int64{}
	for _, name := range g.Names() {
		got[change{group: name, topic: -1}], _, _ = g.Generation(name)
		for _, pos := range g.Positions(name) {
			got[change{group: name, topic: pos.Topic}] = pos.Pos
		}
	}
	if !maps.Equal(got, x.state(n)) {
		x.t.Errorf("P8: %v, want %v", got, x.state(n))
	}
}
