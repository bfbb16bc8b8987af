package session

import (
	"slices"

	"chronicle/api"
	"chronicle/cursor"
)

// none is the place of a reader that there is none of.
const none = -1

// reader is a cursor or a snapshot that is delivered for a request.
type reader struct {
	id     uint32
	topic  int
	kind   int
	source source
}

// Subscribe begins to deliver what a cursor reads, for a request.
func (s *Session) Subscribe(id uint32, topic int, c *cursor.Cursor) api.Errno {
	if c == nil {
		return api.ErrNil
	}
	return s.begin(reader{id, topic, cursors, cursorSource{c}}, api.MaxSubs, api.ErrSubs)
}

// Hold begins to deliver a snapshot, for a request.
func (s *Session) Hold(id uint32, topic int, p *cursor.Snap) api.Errno {
	if p == nil {
		return api.ErrNil
	}
	return s.begin(reader{id, topic, snaps, snapSource{p}}, api.MaxSnaps, api.ErrSnaps)
}

// begin makes it the last reader, unless there are as many of its kind as may be, or one of its id.
func (s *Session) begin(r reader, most int, full api.Errno) api.Errno {
	if e := s.refusal(); e != api.OK {
		return e
	}
	if s.count(r.kind) == most || s.find(r.id) != none {
		return full
	}
	s.readers = append(s.readers, r)
	return api.OK
}

// count tells how many readers of a kind there are.
func (s *Session) count(kind int) int {
	n := 0
	for _, r := range s.readers {
		if r.kind == kind {
			n++
		}
	}
	return n
}

// find is the place of the reader of an id.
func (s *Session) find(id uint32) int {
	return slices.IndexFunc(s.readers, func(r reader) bool { return r.id == id })
}

// Unsubscribe ends what a request began.
func (s *Session) Unsubscribe(id uint32) api.Errno {
	if e := s.refusal(); e != api.OK {
		return e
	}
	at := s.find(id)
	if at == none {
		return api.ErrNoSub
	}
	s.end(at)
	return api.OK
}

// end closes the reader at a place, and cuts it out of the list. Nothing is written over the list as it was: who goes through that is not disturbed.
func (s *Session) end(at int) {
	s.readers[at].source.Close()
	s.readers = append(s.readers[:at:at], s.readers[at+1:]...)
	if at < s.next {
		s.next--
	}
}

// Ready tells whether a delivery would find something.
func (s *Session) Ready() bool { return s.turn() != none }

// turn is the place of the reader whose turn it is. The place behind the last reader is led back to the front here alone: one that begins meanwhile stands there, and comes first.
func (s *Session) turn() int {
	if s.refusal() != api.OK || len(s.outbox) >= api.MaxOutbox {
		return none
	}
	for i := range s.readers {
		at := (s.next + i) % len(s.readers)
		if s.readers[at].source.ready() {
			return at
		}
	}
	return none
}

// Deliver delivers one piece, and tells how many records.
func (s *Session) Deliver() int {
	at := s.turn()
	if at == none {
		return 0
	}
	s.next = at + 1
	piece := s.readers[at].source.tell()
	piece.Id, piece.Op = s.readers[at].id, api.OpDeliver
	s.lay(piece)
	if !piece.More {
		s.end(at)
	}
	return len(piece.Records)
}

// Gone tells that a topic was dropped: what reads it is told, and ends; how many.
func (s *Session) Gone(topic int) int {
	if s.refusal() != api.OK {
		return 0
	}
	told := 0
	for _, r := range s.readers {
		if r.topic == topic {
			s.lay(api.Response{Id: r.id, Op: api.OpDeliver, Code: api.CodeNoTopic})
			s.end(s.find(r.id))
			told++
		}
	}
	return told
}
