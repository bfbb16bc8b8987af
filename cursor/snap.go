package cursor

import (
	"slices"
	"strings"

	"chronicle/api"
	"chronicle/topic"
)

// Snap is a reader of the live keys of one moment.
type Snap struct {
	reader
	moment int64
	left   []api.Pair // what has not been told yet
}

// Snapshot reads the live keys as they are now.
func Snapshot(t *topic.Topic) (*Snap, api.Errno) { return Prefix(t, "") }

// Prefix reads those that begin so.
func Prefix(t *topic.Topic, prefix string) (*Snap, api.Errno) {
	recs, e := t.Records()
	if e != api.OK {
		return nil, e
	}
	recs = slices.DeleteFunc(recs, func(r api.Record) bool { return !strings.HasPrefix(r.Key, prefix) })
	return &Snap{reader{begun: true}, t.State().Committed, Fold(nil, recs)}, api.OK
}

// Next tells at most so many pairs, of at most so many bytes, and the state behind them.
func (s *Snap) Next(most, bytes int) ([]api.Pair, int, api.Errno) {
	if s == nil {
		return nil, 0, api.ErrNil
	}
	if e := s.refusal(most, bytes); e != api.OK {
		return nil, 0, e
	}
	n := fitting(s.left, most, bytes)
	pairs := slices.Clone(s.left[:n])
	s.left = s.left[n:]
	if len(s.left) == 0 {
		s.state = api.CurEnd
	}
	return pairs, s.state, api.OK
}

// fitting tells how many of the first pairs make a piece of such a size.
func fitting(pairs []api.Pair, most, bytes int) int {
	for n, p := range pairs {
		bytes -= len(p.Key) + len(p.Value)
		if n == most || n > 0 && bytes < 0 {
			return n
		}
	}
	return len(pairs)
}

// Moment tells the committed end that it is of.
func (s *Snap) Moment() int64 {
	if s == nil {
		return 0
	}
	return s.moment
}

// Close ends it.
func (s *Snap) Close() api.Errno {
	if s == nil {
		return api.ErrNil
	}
	s.left = nil
	return s.shut()
}
