package chronicle_test

import (
	"fmt"
	"maps"
	"slices"
	"strconv"
	"strings"
	"testing"

	"chronicle/api"
	"chronicle/cursor"
	"chronicle/shell"
)

// witness reads a script and what was told of it, and knows nothing of how it is done: it holds what is told against the promises of the whole.
type witness struct {
	t        *testing.T
	horizon  int64
	count    map[string]int
	clock    int64
	labels   map[int]int // the connections of the labels
	given    int         // so many connections this store has had
	waiting  map[int][]api.Request
	lost     bool // the power is off
	stories  map[string]*story
	used     map[int]string // all numbers that topics ever had
	asked    map[uint32]api.Request
	served   map[uint32]service
	owes     map[int][]uint32 // of each connection the requests that were served and not answered
	readers  map[uint32]*reading
	ended    map[uint32]*reading
	tales    []tale
	underWay []api.Request // when the power went: one of these
	unsure   bool          // the store was opened anew, and was not asked yet what is left
}

// story is a topic's log: all that was appended; the first ones are committed, so many at least.
type story struct {
	id      int
	horizon int64
	log     []api.Record
	firm    int
}

// service is what a request came to when it was served: of which topic, which part of the log was committed, between two bounds.
type service struct {
	of          *story
	offset      int64
	least, most int
}

// reading is what a client has made of what it was delivered.
type reading struct {
	of     *story
	op     int
	at     int64
	made   map[string]api.Record
	prefix string
	told   []api.Record
	moment int64
}

// tale is what the groups may have come to: what is committed, and what waits for it. Behind a crash several tales may be true.
type tale struct {
	gens    map[string]int64
	spots   map[spot]int64
	pending []change
	said    map[uint32]int64 // what it says that a request is answered
}

type spot struct {
	group string
	topic int
}

// change is a generation (topic -1), or a position.
type change struct {
	spot
	n int64
}

func newWitness(t *testing.T, horizon int64, count map[string]int) *witness {
	w := &witness{t: t, horizon: horizon, count: count, stories: map[string]*story{}, used: map[int]string{}, asked: map[uint32]api.Request{}, tales: []tale{newTale()}}
	w.begin()
	return w
}

func newTale() tale {
	return tale{gens: map[string]int64{}, spots: map[spot]int64{}, said: map[uint32]int64{}}
}

// begin forgets what hangs on connections.
func (w *witness) begin() {
	w.labels, w.waiting, w.owes, w.given, w.lost = map[int]int{}, map[int][]api.Request{}, map[int][]uint32{}, 0, false
	w.served, w.readers, w.ended = map[uint32]service{}, map[uint32]*reading{}, map[uint32]*reading{}
}

// read reads a whole script with what was told of it.
func (w *witness) read(script []string, told string) {
	w.t.Helper()
	of := map[int][][]string{}
	for _, line := range slowLines(told) {
		parts := cut(line)
		n, _ := strconv.Atoi(parts[0])
		of[n] = append(of[n], parts[1:])
	}
	for i, line := range script {
		if c, e := shell.Parse(line); e == api.OK {
			w.line(c, of[i+1])
		}
		if w.t.Failed() {
			w.t.Fatalf("at the line %d: %s: %v", i+1, line, of[i+1])
		}
	}
}

// cut is the parts of a line.
func cut(line string) []string {
	var parts []string
	for line != "" {
		if quoted, e := strconv.QuotedPrefix(line); e == nil {
			part, _ := strconv.Unquote(quoted)
			parts = append(parts, part)
			line = strings.TrimPrefix(line[len(quoted):], " ")
			continue
		}
		part, rest, _ := strings.Cut(line, " ")
		parts = append(parts, part)
		line = rest
	}
	return parts
}

func (w *witness) line(c api.Command, told [][]string) {
	switch c.Verb {
	case api.VOpen:
		w.labels[c.Conn] = 0
		if told[0][1] == "0" {
			w.given++
			w.labels[c.Conn] = w.given
		}
	case api.VShut:
		if told[0][1] == "0" {
			delete(w.waiting, w.labels[c.Conn])
			delete(w.owes, w.labels[c.Conn])
		}
	case api.VSay:
		if told[0][1] == "0" && told[0][2] == "1" {
			conn := w.labels[c.Conn]
			w.waiting[conn] = append(w.waiting[conn], c.Request)
			w.asked[c.Request.Id] = c.Request
		}
	case api.VTick:
		w.clock, _ = strconv.ParseInt(told[0][1], 10, 64)
	case api.VSteps:
		for _, parts := range told {
			w.did(parts)
		}
	case api.VTake:
		for _, parts := range told[:len(told)-1] {
			w.heard(w.labels[c.Conn], answer(parts[1:]))
		}
	case api.VCrash:
		want(w.t, "P2: what is left opens", told[0][1], "0")
		w.crashed()
	case api.VCheck:
		if w.unsure {
			want(w.t, "P10: findings behind an opening", fmt.Sprint(told), "[[check 0]]")
		}
	case api.VState:
		w.state(told)
	}
}

func numbers(parts []string) []int {
	var list []int
	for _, part := range parts {
		n, _ := strconv.Atoi(part)
		list = append(list, n)
	}
	return list
}

// did is told of a step.
func (w *witness) did(parts []string) {
	if parts[1] == "error" {
		want(w.t, "the only error of a step", parts[2], "34")
		if !w.lost {
			w.lost = true
			for _, list := range w.waiting {
				w.underWay = append(w.underWay, list[:min(1, len(list))]...)
			}
		}
		return
	}
	d := numbers(parts[1:])
	switch d[0] {
	case api.DidRequest:
		r := w.waiting[d[1]][0]
		w.waiting[d[1]] = w.waiting[d[1]][1:]
		want(w.t, "the operation", d[3], r.Op)
		w.count[fmt.Sprint(r.Op, " ", d[4])]++
		w.owes[d[1]] = append(w.owes[d[1]], r.Id)
		w.serve(r, d[2], d[4])
	case api.DidCommit:
		for _, s := range w.stories {
			s.firm = len(s.log)
		}
		for i := range w.tales {
			w.tales[i].commit(len(w.tales[i].pending))
		}
	}
}

// commit lets the first n changes count that wait for it.
func (g *tale) commit(n int) {
	for _, c := range g.pending[:n] {
		if c.topic < 0 {
			g.gens[c.group] = c.n
		} else {
			g.spots[c.spot] = c.n
		}
	}
	g.pending = slices.Clone(g.pending[n:])
}

// generation is a group's youngest one, that which waits with them.
func (g tale) generation(group string) int64 {
	n := g.gens[group]
	for _, c := range g.pending {
		if c.group == group && c.topic < 0 {
			n = c.n
		}
	}
	return n
}

// only keeps those tales that may be true; one has to be.
func (w *witness) only(what string, is func(g *tale) bool) {
	w.t.Helper()
	var left []tale
	for _, g := range w.tales {
		if is(&g) {
			left = append(left, g)
		}
	}
	if len(left) == 0 {
		w.t.Errorf("P8: %s: none of %d tales: %v", what, len(w.tales), w.tales)
		return
	}
	w.tales = left
}

// serve is told of a request that was served.
func (w *witness) serve(r api.Request, topic, code int) {
	s := w.stories[r.Topic]
	if s != nil && topic != s.id && code != api.CodeExists && code != api.CodeBadRequest {
		w.t.Errorf("%+v is about %d, not %d", r, topic, s.id)
	}
	if code == api.CodeFull {
		w.t.Errorf("P7: FULL on a wide disk")
	}
	v := service{of: s}
	if s != nil {
		v.least, v.most = s.firm, len(s.log)
	}
	switch {
	case r.Op == api.OpJoin && code < 0:
		w.only("a join", func(g *tale) bool {
			g.said[r.Id] = g.generation(r.Key) + 1
			g.pending = append(g.pending, change{spot{r.Key, -1}, g.said[r.Id]})
			return true
		})
	case r.Op == api.OpCommit && code < 0:
		w.only("a position", func(g *tale) bool {
			ok := g.generation(r.Key) == r.Number
			g.pending = append(g.pending, change{spot{r.Key, s.id}, r.Offset})
			return ok
		})
	case r.Op == api.OpCommit && (code == api.CodeSequence || code == api.CodeNoSuch):
		w.only("a position that is fenced", func(g *tale) bool {
			gen := g.generation(r.Key)
			return gen != r.Number && (gen == 0) == (code == api.CodeNoSuch)
		})
	case r.Op == api.OpPosition && s != nil && (code == api.CodeOK || code == api.CodeNoSuch):
		w.only("a position that is asked for", func(g *tale) bool {
			n, there := g.spots[spot{r.Key, s.id}]
			g.said[r.Id] = n
			return there == (code == api.CodeOK)
		})
	case code == api.CodeNoTopic:
		want(w.t, "P7: there is no such topic", s == nil, true)
	case r.Op == api.OpCreate && code == api.CodeExists:
		want(w.t, "P7: there is such a topic", s != nil, true)
	case r.Op == api.OpCreate && code == api.CodeOK:
		v.of = w.created(r, topic)
	case r.Op == api.OpDrop && code == api.CodeOK:
		delete(w.stories, r.Topic)
	case (r.Op == api.OpPut || r.Op == api.OpDelete) && code <= 0:
		v.offset = w.written(r, s, code)
	case r.Op == api.OpReplay && code == api.CodeOK, r.Op == api.OpSubscribe && code == api.CodeOK, r.Op == api.OpSnapshot && code == api.CodeOK:
		w.readers[r.Id] = &reading{of: s, op: r.Op, at: r.Offset, made: fold(s.log[:r.Offset]), prefix: r.Key}
	}
	w.served[r.Id] = v
}

func (w *witness) created(r api.Request, id int) *story {
	if was, ok := w.used[id]; ok {
		w.t.Errorf("the number %d of %s was that of %s", id, r.Topic, was)
	}
	w.used[id] = r.Topic
	s := &story{id: id, horizon: r.Number}
	if r.Number == 0 {
		s.horizon = w.horizon
	}
	w.stories[r.Topic] = s
	return s
}

// written is the offset of a record that was taken, or was there already.
func (w *witness) written(r api.Request, s *story, code int) int64 {
	var last api.Record
	for _, old := range s.log {
		if r.Pid > 0 && old.Pid == r.Pid {
			last = old
		}
	}
	if last.Pid > 0 && last.Seq == r.Seq {
		w.count["again"]++
		return last.Offset
	}
	want(w.t, "P6: a number that is new", r.Pid == 0 || r.Seq == last.Seq+1, true)
	want(w.t, "it waits for a commit", code, -1)
	rec := api.Record{Kind: api.KValue, Offset: int64(len(s.log)), Time: w.clock, Pid: r.Pid, Seq: r.Seq, Key: r.Key, Value: r.Value}
	if r.Op == api.OpDelete {
		rec.Kind = api.KTombstone
	}
	s.log = append(s.log, rec)
	return rec.Offset
}

// fold is the last record of each key.
func fold(log []api.Record) map[string]api.Record {
	made := map[string]api.Record{}
	for _, r := range log {
		made[r.Key] = r
	}
	return made
}

// answer is the response whose line this is.
func answer(parts []string) api.Response {
	word := func(list []string, part string) int { return slices.Index(list, part) }
	a := api.Response{
		Op:   word(strings.Fields("- ping create drop list put delete get replay snapshot subscribe unsubscribe join commit position stat"), parts[1]),
		Code: word(strings.Fields("ok bad-request no-topic exists full offsets horizon-passed throttled sequence too-many no-such beyond"), parts[2]),
		More: parts[5] == "more",
	}
	if parts[1] == "deliver" {
		a.Op = api.OpDeliver
	}
	n := numbers(parts[:5])
	a.Id, a.Offset, a.Number = uint32(n[0]), int64(n[3]), int64(n[4])
	for parts = parts[6:]; len(parts) > 0; {
		if parts[0] == "name" {
			a.Names = append(a.Names, parts[1])
			parts = parts[2:]
			continue
		}
		n := numbers(parts[1:5])
		a.Records = append(a.Records, api.Record{Kind: 1 + word([]string{"value", "tombstone"}, parts[0]), Offset: int64(n[0]), Time: int64(n[1]), Pid: int64(n[2]), Seq: int64(n[3]), Key: parts[5], Value: parts[6]})
		parts = parts[7:]
	}
	return a
}

// heard is told of an answer.
func (w *witness) heard(conn int, a api.Response) {
	r := w.asked[a.Id]
	if a.Op == api.OpDeliver {
		w.delivered(a)
		return
	}
	at := slices.Index(w.owes[conn], a.Id)
	if at < 0 || a.Op != r.Op {
		w.t.Errorf("P1: an answer to what was not served, or once more: %+v", a)
		return
	}
	w.owes[conn] = slices.Delete(w.owes[conn], at, at+1)
	v := w.served[a.Id]
	if a.Code != api.CodeOK {
		return
	}
	w.count[fmt.Sprint("heard ", a.Op)]++
	switch a.Op {
	case api.OpPut, api.OpDelete:
		want(w.t, "the offset", a.Offset, v.offset)
		v.of.firm = max(v.of.firm, int(a.Offset)+1)
	case api.OpGet:
		right := false
		for n := v.least; n <= v.most; n++ {
			last := fold(v.of.log[:n])[r.Key]
			right = right || last.Kind == api.KValue && slices.Equal(a.Records, []api.Record{last}) || last.Kind != api.KValue && len(a.Records) == 0
		}
		want(w.t, "the last value", right, true)
	case api.OpStat:
		want(w.t, "the committed end", int64(v.least) <= a.Offset && a.Offset <= int64(v.most), true)
	case api.OpReplay, api.OpSubscribe, api.OpSnapshot:
		if reader := w.readers[a.Id]; reader != nil {
			reader.moment = a.Offset
		}
	case api.OpJoin:
		w.only("a generation", func(g *tale) bool { return g.said[a.Id] == a.Number })
	case api.OpPosition:
		w.only("a position", func(g *tale) bool { return g.said[a.Id] == a.Offset })
	}
}

// delivered holds a delivery against P4.
func (w *witness) delivered(a api.Response) {
	r := w.readers[a.Id]
	if r == nil || a.Code != api.CodeOK {
		want(w.t, "of one that reads", r != nil && len(a.Records) == 0 && !a.More, true)
		delete(w.readers, a.Id)
		w.count[fmt.Sprint("passed ", a.Code)]++
		return
	}
	w.count["delivered"]++
	if r.op == api.OpSnapshot {
		want(w.t, "the moment", a.Offset, r.moment)
		r.told = append(r.told, a.Records...)
		if !a.More {
			w.snapped(r)
		}
		return
	}
	for _, rec := range a.Records {
		want(w.t, "P4: offsets rise", r.at <= rec.Offset && rec.Offset < a.Offset, true)
		want(w.t, "P4: as it is in L", rec, r.of.log[rec.Offset])
		r.at = rec.Offset + 1
		r.made[rec.Key] = rec
	}
	r.at = a.Offset
	r.told = append(r.told, a.Records...)
	for key, last := range fold(r.of.log) {
		if last.Offset < r.at && lives(last) != lives(r.made[key]) || lives(r.made[key]) && last.Offset < r.at && r.made[key] != last {
			w.t.Errorf("P4: what is made of %q: %+v, want %+v", key, r.made[key], last)
		}
	}
	if !a.More {
		w.ended[a.Id] = r
		delete(w.readers, a.Id)
	}
}

func lives(r api.Record) bool { return r.Kind == api.KValue }

// snapped holds a whole snapshot against the log.
func (w *witness) snapped(r *reading) {
	var wanted []api.Record
	for _, pair := range cursor.Fold(nil, r.of.log[:r.moment]) {
		if strings.HasPrefix(pair.Key, r.prefix) {
			wanted = append(wanted, api.Record{Kind: api.KValue, Offset: pair.Off, Time: pair.Time, Key: pair.Key, Value: pair.Value})
		}
	}
	want(w.t, "a snapshot", fmt.Sprint(r.told), fmt.Sprint(wanted))
}

// crashed is told of a loss of power, behind which the store was opened anew.
func (w *witness) crashed() {
	w.begin()
	w.unsure = true
	var all []tale
	known := map[string]int{}
	for _, g := range w.tales {
		for n := range len(g.pending) + 1 {
			other := newTale()
			maps.Copy(other.gens, g.gens)
			maps.Copy(other.spots, g.spots)
			other.pending = slices.Clone(g.pending[:n])
			other.commit(n)
			key := fmt.Sprint(other.gens, other.spots)
			known[key]++
			if known[key] == 1 {
				all = append(all, other)
			}
		}
	}
	w.tales = all
	w.count["crashes"]++
}

// state is told of the topics that there are.
func (w *witness) state(told [][]string) {
	if !w.unsure {
		return
	}
	w.unsure = false
	left := map[string]*story{}
	for _, parts := range told[1:] {
		name, n := parts[1], numbers(parts[2:])
		s := w.stories[name]
		if s == nil || s.id != n[0] {
			want(w.t, "P2: a topic that nobody created: "+name, w.wasUnderWay(api.OpCreate, name), true)
			w.count["a create that was under way"]++
			s = w.created(api.Request{Topic: name, Number: w.horizonOf(name)}, n[0])
		}
		if n[1] < s.firm || n[1] > len(s.log) {
			w.t.Errorf("P2: of %s is left %d, of %d of which %d were acknowledged", name, n[1], len(s.log), s.firm)
			return
		}
		w.count["lost"] += len(s.log) - n[1]
		s.log, s.firm = s.log[:n[1]], n[1]
		want(w.t, "keys that live", n[3], len(cursor.Fold(nil, s.log)))
		left[name] = s
	}
	for name := range w.stories {
		if left[name] == nil {
			want(w.t, "P2: a topic that nobody dropped: "+name, w.wasUnderWay(api.OpDrop, name), true)
			w.count["a drop that was under way"]++
		}
	}
	w.stories, w.underWay = left, nil
}

func (w *witness) wasUnderWay(op int, name string) bool {
	return slices.ContainsFunc(w.underWay, func(r api.Request) bool { return r.Op == op && r.Topic == name })
}

// horizonOf is that of a topic whose creation was under way.
func (w *witness) horizonOf(name string) int64 {
	for _, r := range w.underWay {
		if r.Op == api.OpCreate && r.Topic == name {
			return r.Number
		}
	}
	return 0
}
