package segment

import (
	"chronicle/api"
	"chronicle/record"
)

// Append writes a record and tells its place.
func (s *Segment) Append(r api.Record) (int, api.Errno) {
	if s == nil {
		return 0, api.ErrNil
	}
	if s.info.Sealed {
		return 0, api.ErrSealed
	}
	b, e := record.Encode(r)
	if e != api.OK {
		return 0, e
	}
	if r.Offset <= s.info.Last {
		return 0, api.ErrOrder
	}
	if s.info.Count > 0 && s.info.Size+len(b)+api.SegTail > s.limit {
		return 0, api.ErrRoll
	}
	if e := s.disk.Append(s.name, b); e != api.OK {
		return 0, e
	}
	placed := s.grow(r, b)
	s.sizes[placed.Pos] = placed.Len
	return placed.Pos, api.OK
}

// Sync makes it durable.
func (s *Segment) Sync() api.Errno {
	if s == nil {
		return api.ErrNil
	}
	return s.disk.Sync(s.name)
}

// Seal ends it: nothing is appended any more.
func (s *Segment) Seal() api.Errno {
	if s == nil {
		return api.ErrNil
	}
	if s.info.Sealed {
		return api.ErrSealed
	}
	tail := s.tail()
	if e := s.disk.Append(s.name, tail); e != api.OK {
		return e
	}
	s.end(tail) // whether it can be synced or not: the tail stands there
	return s.disk.Sync(s.name)
}
