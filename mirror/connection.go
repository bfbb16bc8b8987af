package mirror

import (
	"chronicle/api"
	"chronicle/stream"
	"chronicle/wire"
)

// connection is what is known of one connection. At its beginning nothing has been asked on it.
type connection struct {
	frames   *stream.Reader
	asked    uint32 // how many requests were told; so it is the last one's Id too
	state    int
	snapping bool // a snapshot is being taken, or was broken off; else it tails
	snap     snapshot
}

// Lost tells that the connection is gone.
func (m *Mirror) Lost() {
	if m.isNone() {
		return
	}
	frames, _ := stream.New(api.MaxFrame) // a limit that may be
	m.connection = connection{frames: frames}
}

// Ask tells the requests that are to be sent now.
func (m *Mirror) Ask() []byte {
	if m.isNone() || m.state != asking {
		return nil
	}
	if m.asked == 0 {
		m.snapping = m.isDoubtful()
	}
	m.asked++
	r := api.Request{Id: m.asked, Op: m.operation(), Topic: m.source}
	m.state = beginning
	if !m.snapping {
		r.Offset = m.at.position
		m.state = subscribing
	}
	frame, _ := wire.EncodeRequest(r) // the name and the position may be
	return frame
}

// isDoubtful tells whether the copy may have what the source has lost: a reader at 0 is never told that the horizon has passed it.
func (m *Mirror) isDoubtful() bool { return m.at.position == 0 && m.copy.State().Next > 0 }

// operation is the one of the request that is to be sent, or was told last.
func (c *connection) operation() int {
	if c.snapping {
		return api.OpSnapshot
	}
	return api.OpSubscribe
}

// phase tells what is going on, for those who look on.
func (c *connection) phase() int {
	switch {
	case c.state == broken:
		return api.MirBroken
	case c.state == idle || c.asked == 0:
		return api.MirIdle
	case c.snapping:
		return api.MirSnap
	}
	return api.MirTail
}

// Hear takes answers, in any chunks.
func (m *Mirror) Hear(now int64, chunk []byte) api.Errno {
	if m.isNone() {
		return api.ErrNil
	}
	if m.state == broken {
		return api.ErrSource
	}
	for _, piece := range m.frames.Feed(chunk) {
		e := m.take(now, responseOf(piece))
		switch e {
		case api.OK:
			continue
		case api.ErrSource:
			m.rest(broken)
		default: // the copy has refused something
			m.rest(idle)
		}
		return e
	}
	return api.OK
}

// responseOf is the response that a piece tells. Of a piece that tells none it is the empty one, which no request has.
func responseOf(piece api.Framed) api.Response {
	frame, _ := wire.Frame(piece.Body) // none of a piece that has no body
	r, _ := wire.DecodeResponse(frame)
	return r
}

// rest lets nothing more be asked and looked at on this connection. Whether a snapshot is broken off by that, has still to be known.
func (c *connection) rest(state int) {
	*c = connection{asked: c.asked, state: state, snapping: c.snapping}
}
