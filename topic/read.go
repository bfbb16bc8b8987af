package topic

import (
	"math"

	"chronicle/api"
)

// Get tells the last committed record of a key.
func (t *Topic) Get(key string) (api.Record, bool, api.Errno) {
	if e := t.refusal(); e != api.OK {
		return api.Record{}, false, e
	}
	if len(key) == 0 || len(key) > api.MaxKey {
		return api.Record{}, false, api.ErrKey
	}
	entry, ok := t.index.Get(key)
	if !ok || entry.Tomb {
		return api.Record{}, false, api.OK
	}
	r, e := t.read(entry.Seg, spot{entry.Offset, entry.At, entry.Size})
	return r, e == api.OK, e
}

// From tells committed records from an offset on, and the position behind them.
func (t *Topic) From(offset int64, most, bytes int) ([]api.Record, int64, api.Errno) {
	if e := t.refusal(); e != api.OK {
		return nil, 0, e
	}
	if most < 1 || bytes < 1 {
		return nil, 0, api.ErrArg
	}
	if offset < 0 || offset > t.end {
		return nil, 0, api.ErrPos
	}
	var list []api.Record
	for seg, s := range t.left(offset) {
		bytes -= s.size
		if len(list) == most || len(list) > 0 && bytes < 0 {
			return list, offset, api.OK
		}
		r, e := t.read(seg, s)
		if e != api.OK {
			return nil, 0, e
		}
		list = append(list, r)
		offset = s.offset + 1
	}
	return list, t.end, api.OK
}

// Keys tells keys that live, and whether there are more.
func (t *Topic) Keys(lo, hi string, most int) ([]string, bool) {
	if t.refusal() != api.OK || most < 1 {
		return nil, false
	}
	var keys []string
	for key, e := range t.index.All(lo, hi) {
		if e.Tomb {
			continue
		}
		if len(keys) == most {
			return keys, true
		}
		keys = append(keys, key)
	}
	return keys, false
}

// Records tells all committed records that are left.
func (t *Topic) Records() ([]api.Record, api.Errno) {
	list, _, e := t.From(0, math.MaxInt, math.MaxInt)
	return list, e
}

// State tells the topic's numbers.
func (t *Topic) State() api.TopicState {
	state := api.TopicState{Id: t.Id()}
	if t.refusal() != api.OK {
		return state
	}
	state.Next, state.Committed = t.next(), t.end
	state.Mark, state.Clock = t.man.Mark, t.clock
	state.Segs, state.Pending = len(t.man.Segs), len(t.pending)
	state.Live, state.Dead = t.census()
	state.Bytes = t.size()
	return state
}

// census tells how many keys live, and how many records that are left a merge would leave out now.
func (t *Topic) census() (live, dead int) {
	for _, p := range t.parts {
		dead += len(p)
	}
	for _, e := range t.index.All("", "") {
		if !e.Tomb {
			live++
		}
		if t.keeps(t.clock, e) {
			dead--
		}
	}
	return live, dead
}

// size tells how many bytes the segments' files have together.
func (t *Topic) size() int64 {
	sum := t.last.Info().Size
	for _, seg := range t.sealed() {
		sum += api.SegHead + t.parts[seg].bytes() + api.SegTail
	}
	return int64(sum)
}
