package session

import (
	"slices"

	"chronicle/api"
	"chronicle/wire"
)

// Feed takes bytes of the client, and tells how many requests have joined the inbox.
func (s *Session) Feed(chunk []byte) int {
	if s.refusal() != api.OK {
		return 0
	}
	joined := 0
	for _, piece := range s.stream.Feed(chunk) {
		if s.hear(piece) {
			joined++
		}
	}
	return joined
}

// hear takes a piece of the client's stream, and tells whether it is a request that has joined the inbox.
func (s *Session) hear(piece api.Framed) bool {
	r, ok := requestOf(piece)
	switch {
	case !ok:
		s.broken = piece.Kind == api.StDead // behind such a piece the stream tells none
		s.lay(api.Response{Op: api.OpPing, Code: api.CodeBadRequest})
	case len(s.inbox) == api.MaxInbox:
		s.lay(api.Response{Id: r.Id, Op: r.Op, Code: api.CodeTooMany})
	default:
		s.inbox = append(s.inbox, r)
		return true
	}
	return false
}

// requestOf is the request that a piece tells, if it tells one.
func requestOf(piece api.Framed) (api.Request, bool) {
	frame, _ := wire.Frame(piece.Body) // none of a piece that has no body: so that is no request's
	r, e := wire.DecodeRequest(frame)
	return r, e == api.OK
}

// Next takes the oldest request out of the inbox.
func (s *Session) Next() (api.Request, bool) {
	if s.refusal() != api.OK || len(s.inbox) == 0 {
		return api.Request{}, false
	}
	r := s.inbox[0]
	s.inbox = slices.Delete(s.inbox, 0, 1)
	return r, true
}
