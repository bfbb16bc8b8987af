package segment

import (
	"iter"

	"chronicle/api"
	"chronicle/record"
)

// Read reads the record at a place.
func (s *Segment) Read(at int) (api.Record, api.Errno) {
	if s == nil {
		return api.Record{}, api.ErrNil
	}
	size, ok := s.sizes[at]
	if !ok {
		return api.Record{}, api.ErrPlace
	}
	b, e := s.disk.Read(s.name, at, size)
	if e != api.OK {
		return api.Record{}, e
	}
	r, _, e := record.Decode(b) // not OK only where somebody else has changed the file
	return r, e
}

// Places goes through the records from a place on.
func (s *Segment) Places(from int) iter.Seq2[int, api.Record] {
	return func(yield func(int, api.Record) bool) {
		if s == nil {
			return
		}
		at := api.SegHead
		if s.sizes[from] > 0 {
			at = from // whoever goes on from record to record is not led through all of them each time
		}
		// The map is asked anew at each place, so that what is appended meanwhile is found too.
		for ; s.sizes[at] > 0; at += s.sizes[at] {
			if at >= from && !s.give(at, yield) {
				return
			}
		}
	}
}

// give reads the record at a place and gives it, and tells whether more is wanted and can be had.
func (s *Segment) give(at int, yield func(int, api.Record) bool) bool {
	r, e := s.Read(at)
	return e == api.OK && yield(at, r)
}

// Info tells what it says of itself.
func (s *Segment) Info() api.SegInfo {
	if s == nil {
		return api.SegInfo{}
	}
	return s.info
}
