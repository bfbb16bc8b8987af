package cursor_test

import (
	"fmt"
	"slices"
	"sort"
	"strings"
	"testing"

	"chronicle/api"
	"chronicle/cursor"
	"chronicle/merge"
	"chronicle/probe"
	"chronicle/record"
	"chronicle/simfs"
	"chronicle/topic"
)

// world is a topic that is written to and merged, what is known of it, and its readers.
type world struct {
	t       *testing.T
	d       *simfs.Disk
	p       *topic.Topic
	log     []api.Record  // all that were accepted
	lost    map[int64]int // the offsets that merges have left out
	mark    int64
	tombs   []int64      // the offsets of tombstones that were dropped for their age
	m       *merge.Merge // the open one, if there is one
	passing []int64      // what it has passed by
	aged    []int64      // and which of these for their age
	readers []*reader
	snaps   []*held
	count   map[string]int // what was seen how often
}

func newWorld(t *testing.T, horizon int64, count map[string]int) *world {
	t.Helper()
	d, _ := simfs.New(1 << 22)
	p, e := topic.Create(d, 3, 256, horizon, 0)
	want(t, "Create", e, api.OK)
	return &world{t: t, d: d, p: p, lost: map[int64]int{}, count: count}
}

func someKeys() []string { return []string{"a", "ab", "b", "\x00", "\xff\xff", "a rather long key"} }

// append appends some record.
func (w *world) append(x uint64) {
	r := put(int64(len(w.log)), someKeys()[x%6], probe.Text(x, int(x>>8%60)))
	if x>>16%3 == 0 {
		r = gone(r.Offset, r.Key)
	}
	r = at(w.p.Tick(-1), r)
	lay(w.t, w.p, r)
	w.log = append(w.log, r)
}

// committed is the log.
func (w *world) committed() []api.Record { return w.log[:w.p.State().Committed] }

// left is the records that are left, from an offset on.
func (w *world) left(from int64) []api.Record {
	return slices.DeleteFunc(slices.Clone(w.committed()), func(r api.Record) bool { return r.Offset < from || w.lost[r.Offset] > 0 })
}

// step makes a step of the open merge, or begins one.
func (w *world) step(now int64) {
	if w.m == nil {
		m, e := merge.Start(w.p)
		if e == api.OK {
			w.m, w.passing, w.aged = m, nil, nil
		}
		return
	}
	s, e := w.m.Step(now)
	want(w.t, "Step", e, api.OK)
	switch s.Kind {
	case api.MgTomb:
		w.aged = append(w.aged, s.Offset)
		w.passing = append(w.passing, s.Offset)
	case api.MgDrop:
		w.passing = append(w.passing, s.Offset)
	case api.MgCommit:
		for _, off := range w.passing {
			w.lost[off]++
		}
		w.tombs = append(w.tombs, w.aged...)
		for _, off := range w.tombs {
			w.mark = max(w.mark, off+1)
		}
		want(w.t, "the mark", w.p.State().Mark, w.mark)
		w.count["merged"]++
	case api.MgEnd:
		w.m = nil
	}
}

// reader is a cursor, and what it should be.
type reader struct {
	c              *cursor.Cursor
	tail           bool
	from, at, seen int64
	end            int64 // of a replay
	state          int
	start          []api.Pair // the fold of the log up to its beginning
	got            []api.Record
	tombs          int // how many had been dropped when it began
}

// begin begins a cursor somewhere.
func (w *world) begin(from int64, tail bool) {
	f := cursor.Replay
	if tail {
		f = cursor.Tail
	}
	end := w.p.State().Committed
	switch {
	case from < 0 || from > end:
		wantRefused(w.t, "beyond", f, w.p, from, api.ErrPos)
		w.count["beyond"]++
	case 0 < from && from < w.mark:
		wantRefused(w.t, "below the mark", f, w.p, from, api.ErrHorizon)
		w.count["below the mark"]++
	default:
		r := &reader{c: begun(w.t, f, w.p, from), tail: tail, from: from, at: from, seen: w.mark, end: end}
		r.start = slowFold(nil, w.log[:from])
		r.tombs = len(w.tombs)
		if !tail && from == end {
			r.state = api.CurEnd
		}
		w.readers = append(w.readers, r)
		if len(w.readers) > 7 {
			w.readers = w.readers[1:]
		}
	}
}

// next is what the document says of the reader's next piece.
func (w *world) next(r *reader, most, bytes int) api.Piece {
	if r.state == api.CurOpen && w.mark > r.seen && 0 < r.at && r.at < w.mark {
		r.state = api.CurPassed
	}
	if r.state != api.CurOpen {
		return api.Piece{Next: r.at, State: r.state}
	}
	if r.at == 0 || r.at >= w.mark {
		r.seen = w.mark
	}
	var recs []api.Record
	next := w.p.State().Committed
	for _, one := range w.left(r.at) {
		bytes -= record.Size(one)
		if len(recs) > 0 && (len(recs) == most || bytes < 0) {
			next = recs[len(recs)-1].Offset + 1
			break
		}
		recs = append(recs, one)
	}
	if !r.tail && next >= r.end {
		next, r.state = r.end, api.CurEnd
		recs = slices.DeleteFunc(recs, func(one api.Record) bool { return one.Offset >= r.end })
	}
	r.at = next
	return api.Piece{Recs: recs, Next: next, State: r.state}
}

// read takes the next piece of a reader.
func (w *world) read(r *reader, most, bytes int) {
	w.t.Helper()
	ahead, state := r.at, r.state
	right := w.next(r, most, bytes)
	wantPiece(w.t, "against the model", r.c, most, bytes, right.Next, right.State, right.Recs...)
	for _, one := range right.Recs { // 12.8
		if one.Offset < ahead || one.Offset >= right.Next || one != w.log[one.Offset] {
			w.t.Errorf("from %d to %d: %s", ahead, right.Next, brief(one))
		}
		ahead = one.Offset + 1
	}
	r.got = append(r.got, right.Recs...)
	w.count[fmt.Sprint("state ", r.state)]++
	if r.state == api.CurPassed && state == api.CurOpen { // 12.11
		w.count["passed"]++
		if r.at == 0 || !slices.ContainsFunc(w.tombs[r.tombs:], func(off int64) bool { return off >= r.at }) {
			w.t.Errorf("it is passed at %d, of %v dropped", r.at, w.tombs[r.tombs:])
		}
	}
	if r.state == api.CurOpen && 0 < r.at && r.at < w.mark {
		w.count["below a mark that was seen"]++
	}
}

// wantRight fails unless what a reader has made of its pieces is right of each key whose last record it has passed.
func (w *world) wantRight(r *reader) {
	w.t.Helper()
	if r.state == api.CurPassed {
		return
	}
	log := w.committed()
	last := map[string]api.Record{}
	for _, one := range log {
		last[one.Key] = one
	}
	made := map[string]api.Pair{}
	for _, p := range cursor.Fold(r.start, r.got) {
		made[p.Key] = p
	}
	all := true
	for key, one := range last {
		if one.Offset >= r.at {
			all = false
			continue
		}
		var right api.Pair
		if one.Kind == api.KValue {
			right = pair(one)
		}
		want(w.t, fmt.Sprintf("from %d to %d: what is made of %q", r.from, r.at, key), made[key], right)
	}
	if r.c.Waits() {
		w.count["waits"]++
		want(w.t, "all is right of one that waits", all, true)
		wantList(w.t, "all is right of one that waits", cursor.Fold(r.start, r.got), slowFold(nil, log))
	}
}

// wantStanding fails unless each reader stands where it should, and has what it should.
func (w *world) wantStanding() {
	w.t.Helper()
	end := w.p.State().Committed
	for _, r := range w.readers {
		want(w.t, "Position", r.c.Position(), r.at)
		want(w.t, "State", r.c.State(), r.state)
		want(w.t, "Waits", r.c.Waits(), r.tail && r.state == api.CurOpen && r.at == end)
		w.wantRight(r)
	}
}

// held is a snapshot, and what it has to tell yet.
type held struct {
	s      *cursor.Snap
	pairs  []api.Pair
	moment int64
}

// living is the pairs of the keys that live in a log and begin so.
func living(log []api.Record, prefix string) []api.Pair {
	var list []api.Pair
	for i, r := range log {
		later := slices.ContainsFunc(log[i+1:], func(o api.Record) bool { return o.Key == r.Key })
		if !later && r.Kind == api.KValue && strings.Index(r.Key, prefix) == 0 {
			list = append(list, pair(r))
		}
	}
	sort.Slice(list, func(i, j int) bool { return list[i].Key < list[j].Key })
	return list
}

// take takes a snapshot.
func (w *world) take(prefix string) {
	log := w.committed()
	w.snaps = append(w.snaps, &held{taken(w.t, w.p, prefix, int64(len(log))), living(log, prefix), int64(len(log))})
	if len(w.snaps) > 4 {
		w.snaps = w.snaps[1:]
	}
}

// tell takes the next pairs of a snapshot.
func (w *world) tell(h *held, most, bytes int) {
	w.t.Helper()
	n, state := 0, api.CurOpen
	for room := bytes; n < min(most, len(h.pairs)); n++ {
		room -= len(h.pairs[n].Key) + len(h.pairs[n].Value)
		if n > 0 && room < 0 {
			break
		}
	}
	if n == len(h.pairs) {
		state = api.CurEnd
	}
	wantPairs(w.t, "a snapshot against the model", h.s, most, bytes, state, h.pairs[:n]...)
	want(w.t, "Moment", h.s.Moment(), h.moment)
	h.pairs = h.pairs[n:]
	w.count[fmt.Sprint("snapshot ", state)]++
}
