package mirror_test

import (
	"fmt"
	"maps"
	"slices"
	"testing"

	"chronicle/api"
	"chronicle/merge"
	"chronicle/simfs"
	"chronicle/stream"
	"chronicle/topic"
	"chronicle/wire"
)

// slow is a mirror that is kept by what the chapter tells, row by row. It keeps all that was heard on its connection, and its topics lie on a disk of its own.
type slow struct {
	t             *testing.T
	d             *simfs.Disk
	held, notes   *topic.Topic
	number, at    int64
	noted         string // the note at that was appended last
	next          string // what is to be asked: "tail", "snap", "either", nothing
	told          []string
	answered      bool
	heard         []byte
	pieces        int    // so many of them have been looked at
	ended         string // "idle", "broken" or nothing
	inSnap        bool   // a snapshot is being taken, or is broken off
	moment, whose int64
	keys          []string // that the snapshot has told
}

// slowOpen is a slow mirror of "t". (What Open refuses is told by other tests.)
func slowOpen(t *testing.T, d *simfs.Disk, limit int, now int64) (*slow, api.Errno) {
	s := &slow{t: t, d: d, noted: placed(0, 0)}
	made := false
	var both [2]*topic.Topic
	for i := range both {
		p, e := topic.Open(d, copyId+i, limit, 0, now)
		if e == api.ErrTopic {
			p, e = topic.Create(d, copyId+i, limit, 0, now)
			made = made || i == 0
		}
		if e != api.OK {
			return nil, e
		}
		both[i] = p
	}
	s.held, s.notes = both[0], both[1]
	source, lives, e := s.notes.Get("source")
	if e != api.OK {
		return nil, e
	}
	want(t, "the source", lives && source.Value != "t", false)
	at, there, e := s.notes.Get("at")
	if e != api.OK {
		return nil, e
	}
	if there {
		s.noted = at.Value
	}
	for number := range int64(9) {
		for position := range int64(400) {
			if there && !made && at.Value == placed(number, position) {
				s.number, s.at = number, position
			}
		}
	}
	if !lives {
		if _, _, e := s.notes.Append(now, api.Write{Key: "source", Value: "t"}); e != api.OK {
			return nil, e
		}
		if e := s.notes.Commit(); e != api.OK {
			return nil, e
		}
	}
	s.lost()
	return s, api.OK
}

func (s *slow) lost() {
	s.next, s.told, s.answered = "either", nil, false
	s.heard, s.pieces, s.ended = nil, 0, ""
	s.inSnap, s.keys = false, nil
}

// ask is the request that is told now; false, if none is.
func (s *slow) ask() (api.Request, bool) {
	if s.ended != "" || s.next == "" {
		return api.Request{}, false
	}
	if s.next == "either" {
		s.next = "tail"
		if s.at == 0 && s.held.State().Next > 0 {
			s.next = "snap"
		}
	}
	what := s.next
	s.told, s.next, s.answered = append(s.told, what), "", false
	if what == "snap" {
		s.inSnap = true
		return api.Request{Id: uint32(len(s.told)), Op: 9, Topic: "t"}, true
	}
	return api.Request{Id: uint32(len(s.told)), Op: 10, Topic: "t", Offset: s.at}, true
}

func (s *slow) hear(now int64, chunk []byte) api.Errno {
	switch s.ended {
	case "broken":
		return api.ErrSource
	case "idle":
		return api.OK
	}
	s.heard = append(s.heard, chunk...)
	all, _ := stream.Split(s.heard, 4096)
	for ; s.pieces < len(all) && s.ended == ""; s.pieces++ {
		e := s.piece(now, all[s.pieces])
		if e == api.ErrSource {
			s.ended = "broken"
			return e
		}
		if e != api.OK {
			s.ended = "idle"
			return e
		}
	}
	return api.OK
}

func (s *slow) piece(now int64, p api.Framed) api.Errno {
	if p.Kind != api.StFrame {
		return api.ErrSource
	}
	frame, e := wire.Frame(p.Body)
	want(s.t, "Frame", e, api.OK)
	r, e := wire.DecodeResponse(frame)
	if e != api.OK {
		return api.ErrSource
	}
	return s.response(now, r)
}

func (s *slow) response(now int64, r api.Response) api.Errno {
	last := len(s.told)
	if r.Op == 64 {
		for id := 1; id <= last; id++ {
			if r.Id == uint32(id) && (id < last || s.next != "") {
				return api.OK
			}
		}
	}
	if s.next != "" || r.Id != uint32(last) {
		return api.ErrSource
	}
	tails := s.told[last-1] == "tail"
	own := map[bool]int{true: 10, false: 9}[tails]
	switch {
	case r.Op != own && r.Op != 64:
		return api.ErrSource
	case r.Code == 6 || r.Code == 11 && tails:
		s.passed()
		return api.OK
	case r.Code != 0:
		s.ended = "idle"
		return api.OK
	case r.Op != map[bool]int{true: 64, false: own}[s.answered]:
		return api.ErrSource
	case !s.answered && tails:
		return s.subscription(r)
	case !s.answered:
		return s.snapshot(r)
	case tails:
		return s.records(now, r)
	}
	return s.values(now, r)
}

func (s *slow) passed() { s.next, s.inSnap = "snap", true }

func (s *slow) subscription(r api.Response) api.Errno {
	if r.Offset != s.at || r.Number <= 0 || r.Number > lastId {
		return api.ErrSource
	}
	if s.number != 0 && s.number != r.Number {
		s.passed()
		return api.OK
	}
	s.number, s.answered = r.Number, true
	return api.OK
}

func (s *slow) snapshot(r api.Response) api.Errno {
	if r.Offset < 0 || r.Offset > maxOffset || r.Number <= 0 || r.Number > lastId {
		return api.ErrSource
	}
	s.moment, s.whose, s.answered, s.keys = r.Offset, r.Number, true, nil
	return api.OK
}

func (s *slow) records(now int64, r api.Response) api.Errno {
	if !r.More || r.Offset < s.at || r.Offset > maxOffset {
		return api.ErrSource
	}
	for i, x := range r.Records {
		if x.Offset < s.at || x.Offset >= r.Offset || i > 0 && x.Offset <= r.Records[i-1].Offset {
			return api.ErrSource
		}
	}
	for _, x := range r.Records {
		if _, _, e := s.held.Append(now, api.Write{Key: x.Key, Value: x.Value, Tombstone: x.Kind == 2}); e != api.OK {
			return e
		}
		s.at = x.Offset + 1
	}
	s.at = r.Offset
	return api.OK
}

func (s *slow) values(now int64, r api.Response) api.Errno {
	if r.Offset != s.moment {
		return api.ErrSource
	}
	keys := slices.Clone(s.keys)
	for _, x := range r.Records {
		if x.Kind != 1 || len(keys) > 0 && x.Key <= keys[len(keys)-1] {
			return api.ErrSource
		}
		keys = append(keys, x.Key)
	}
	s.keys = keys
	for _, x := range r.Records {
		if _, _, e := s.held.Append(now, api.Write{Key: x.Key, Value: x.Value}); e != api.OK {
			return e
		}
	}
	if r.More {
		return api.OK
	}
	if e := s.held.Commit(); e != api.OK {
		return e
	}
	for _, key := range slices.Sorted(maps.Keys(s.pairs())) {
		if slices.Contains(keys, key) {
			continue
		}
		if _, _, e := s.held.Append(now, api.Write{Key: key, Tombstone: true}); e != api.OK {
			return e
		}
	}
	s.number, s.at = s.whose, s.moment
	s.next, s.inSnap = "tail", false
	return api.OK
}

// pairs is the fold of what is committed.
func (s *slow) pairs() map[string]string {
	recs, _ := s.held.Records()
	all := map[string]string{}
	for _, r := range recs {
		if delete(all, r.Key); r.Kind == 1 {
			all[r.Key] = r.Value
		}
	}
	return all
}

func (s *slow) commit() api.Errno {
	if e := s.held.Commit(); e != api.OK {
		return e
	}
	if text := placed(s.number, s.at); text != s.noted && !s.inSnap {
		note := func() api.Errno {
			_, _, e := s.notes.Append(s.held.State().Clock, api.Write{Key: "at", Value: text})
			return e
		}
		e := note()
		if e == api.ErrSegs {
			m, f := merge.Start(s.notes)
			for f == api.OK && !m.Over() {
				_, f = m.Step(s.held.State().Clock)
			}
			if e = f; e == api.OK {
				e = note()
			}
		}
		if e != api.OK {
			return e
		}
		s.noted = text
	}
	return s.notes.Commit()
}

func (s *slow) state() api.MirState {
	state := api.MirState{Position: s.at, Keys: len(s.pairs()), Pending: s.held.State().Pending}
	if s.d.Dead() {
		state.Keys = s.held.State().Live // nothing can be read any more
	}
	last := s.next
	if last == "" && len(s.told) > 0 {
		last = s.told[len(s.told)-1]
	}
	switch {
	case s.ended == "broken":
		state.State = 3
	case s.ended == "idle" || len(s.told) == 0:
		state.State = 0
	case last == "snap":
		state.State = 1
	default:
		state.State = 2
	}
	return state
}

// double is a mirror and a slow one, to which the same is done.
type double struct {
	*desk
	s *slow
}

// doubled is both over the same image.
func doubled(t *testing.T, image []api.File, limit int, now int64) *double {
	t.Helper()
	k := &double{desk: over(t, loaded(t, image), limit)}
	var e api.Errno
	k.s, e = slowOpen(t, loaded(t, image), limit, 0)
	want(t, "Open of the slow one", e, api.OK)
	k.now = now
	return k
}

// wantSame fails unless both are alike.
func (k *double) wantSame(what string) {
	k.t.Helper()
	want(k.t, what+": State", k.m.State(), k.s.state())
	pairs := k.m.Pairs()
	all := map[string]string{}
	for _, p := range pairs {
		all[p.Key] = p.Value
	}
	if !k.d.Dead() {
		want(k.t, what+": Pairs", fmt.Sprint(all), fmt.Sprint(k.s.pairs()))
		want(k.t, what+": keys rise", slices.IsSortedFunc(pairs, func(a, b api.Pair) int { return cmpText(a.Key, b.Key) }), true)
	}
	alike(k.t, what, k.d, k.s.d)
}

func cmpText(a, b string) int {
	switch {
	case a < b:
		return -1
	case a > b:
		return 1
	}
	return 0
}

// ask asks both.
func (k *double) ask(what string) {
	k.t.Helper()
	r, ok := k.s.ask()
	if ok {
		k.asks(what, r)
	} else {
		k.asksNothing(what)
	}
}

// hear hands both the same bytes, in chunks that end at these places.
func (k *double) hear(what string, b []byte, cuts ...int) {
	k.t.Helper()
	first, from := api.OK, 0
	for _, to := range append(stream.Cuts(len(b), cuts), len(b)) {
		e := k.m.Hear(k.now, b[from:to])
		if first == api.OK {
			first = e
		} else {
			want(k.t, what+": Hear behind an error", e == api.ErrSource, first == api.ErrSource)
		}
		from = to
	}
	want(k.t, what+": Hear", first, k.s.hear(k.now, b))
}

func (k *double) lose() {
	k.m.Lost()
	k.s.lost()
}

func (k *double) commitBoth(what string) {
	k.t.Helper()
	want(k.t, what+": Commit", k.m.Commit(), k.s.commit())
}
