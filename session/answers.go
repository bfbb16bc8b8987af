package session

import (
	"slices"

	"chronicle/api"
	"chronicle/wire"
)

// Send lays an answer into the outbox.
func (s *Session) Send(r api.Response) api.Errno {
	if e := s.refusal(); e != api.OK {
		return e
	}
	return s.lay(r)
}

// lay lays the bytes of a response behind the outbox's. Those that the session makes itself may be, and have room in a frame.
func (s *Session) lay(r api.Response) api.Errno {
	frame, e := wire.EncodeResponse(r)
	s.outbox = append(s.outbox, frame...)
	return e
}

// Owe notes an answer that is sent behind a commit.
func (s *Session) Owe(o api.Owed) api.Errno {
	if e := s.refusal(); e != api.OK {
		return e
	}
	if len(s.owed) == api.MaxOwed {
		return api.ErrOwed
	}
	if e := wire.CheckResponse(o.R); e != api.OK {
		return e
	}
	o.R.Records, o.R.Names = slices.Clone(o.R.Records), slices.Clone(o.R.Names)
	s.owed = append(s.owed, o)
	return api.OK
}

// Settle sends the answers of a topic that were owed for offsets below the committed end, and tells how many.
func (s *Session) Settle(topic int, committed int64) int {
	if s.refusal() != api.OK {
		return 0
	}
	due := s.takeOwed(func(o api.Owed) bool { return o.Topic == topic && o.Offset < committed })
	for _, o := range due {
		s.lay(o.R)
	}
	return len(due)
}

// Refuse sends a code in the place of all answers owed of a topic, and tells how many.
func (s *Session) Refuse(topic, code int) int {
	if s.refusal() != api.OK || code < api.CodeBadRequest || code > api.CodeBeyond {
		return 0
	}
	due := s.takeOwed(func(o api.Owed) bool { return o.Topic == topic })
	for _, o := range due {
		s.lay(api.Response{Id: o.R.Id, Op: o.R.Op, Code: code})
	}
	return len(due)
}

// takeOwed takes the answers that are due out of those that are owed; both stay in their order.
func (s *Session) takeOwed(isDue func(api.Owed) bool) []api.Owed {
	var due, left []api.Owed
	for _, o := range s.owed {
		if isDue(o) {
			due = append(due, o)
		} else {
			left = append(left, o)
		}
	}
	s.owed = left
	return due
}
