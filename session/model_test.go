package session_test

import (
	"testing"

	"chronicle/api"
	"chronicle/cursor"
	"chronicle/stream"
	"chronicle/wire"
)

// model is a session as the document tells it, in the slowest way.
type model struct {
	t       *testing.T
	fed     []byte // all that came from the client
	heard   int    // how many pieces of it have been heard
	inbox   []api.Request
	out     []byte
	owed    []api.Owed
	readers []*twin
	begun   int // how many readers have begun
	last    int // which of them was delivered last
	broken  bool
	count   map[string]int // what was seen how often
}

// twin is a reader, with a cursor or a snapshot of its own, which is asked for the same as the session's.
type twin struct {
	number, topic int
	id            uint32
	c             *cursor.Cursor
	p             *cursor.Snap
}

func (w *twin) ready() bool { return w.p != nil || !w.c.Waits() }

func (m *model) send(r api.Response) { m.out = append(m.out, frames(m.t, r)...) }

// feed splits the whole stream anew, and hears what was not heard yet.
func (m *model) feed(chunk []byte) int {
	m.fed = append(m.fed, chunk...)
	pieces, _ := stream.Split(m.fed, maxFrame)
	joined := 0
	for _, piece := range pieces[m.heard:] {
		m.heard++
		if piece.Kind != api.StFrame {
			m.send(complaint())
			m.broken = m.broken || piece.Kind == api.StDead
			m.count["a bad frame"]++
			continue
		}
		r, e := wire.DecodeRequest(frameOf(m.t, string(piece.Body)))
		switch {
		case e != api.OK:
			m.send(complaint())
			m.count["no request"]++
		case len(m.inbox) >= maxInbox:
			m.send(tooMany(r))
			m.count["too many"]++
		default:
			m.inbox = append(m.inbox, r)
			m.count["joined"]++
			joined++
		}
	}
	return joined
}

func (m *model) next() (api.Request, bool) {
	if len(m.inbox) == 0 {
		return api.Request{}, false
	}
	r := m.inbox[0]
	m.inbox = m.inbox[1:]
	return r, true
}

func (m *model) owe(o api.Owed) api.Errno {
	if len(m.owed) >= maxOwed {
		m.count["owed too many"]++
		return api.ErrOwed
	}
	m.owed = append(m.owed, o)
	return api.OK
}

func (m *model) settle(topic int, committed int64) int {
	var left []api.Owed
	for _, o := range m.owed {
		if o.Topic != topic || o.Offset >= committed {
			left = append(left, o)
			continue
		}
		m.send(o.R)
	}
	n := len(m.owed) - len(left)
	m.owed = left
	m.count["settled"] += n
	return n
}

func (m *model) refuse(topic, code int) int {
	if code < 1 || code > 11 {
		return 0
	}
	var left []api.Owed
	for _, o := range m.owed {
		if o.Topic != topic {
			left = append(left, o)
			continue
		}
		m.send(api.Response{Id: o.R.Id, Op: o.R.Op, Code: code})
	}
	n := len(m.owed) - len(left)
	m.owed = left
	m.count["refused"] += n
	return n
}

// find is where the reader of an id stands, or -1.
func (m *model) find(id uint32) int {
	for i, w := range m.readers {
		if w.id == id {
			return i
		}
	}
	return -1
}

func (m *model) begin(w *twin) api.Errno {
	state := m.state()
	there := m.find(w.id) >= 0
	if w.c != nil && (there || state.Subs >= maxSubs) {
		m.count["no more cursors"]++
		return api.ErrSubs
	}
	if w.p != nil && (there || state.Snaps >= maxSnaps) {
		m.count["no more snapshots"]++
		return api.ErrSnaps
	}
	m.begun++
	w.number = m.begun
	m.readers = append(m.readers, w)
	return api.OK
}

// end takes a reader away.
func (m *model) end(w *twin) {
	var left []*twin
	for _, other := range m.readers {
		if other != w {
			left = append(left, other)
		}
	}
	m.readers = left
}

func (m *model) unsubscribe(id uint32) api.Errno {
	at := m.find(id)
	if at < 0 {
		return api.ErrNoSub
	}
	m.count["taken away"]++
	m.end(m.readers[at])
	return api.OK
}

// turn is the reader whose turn it is.
func (m *model) turn() *twin {
	var first *twin
	for _, w := range m.readers {
		if !w.ready() {
			continue
		}
		if w.number > m.last {
			return w
		}
		if first == nil {
			first = w
		}
	}
	return first
}

func (m *model) ready() bool { return len(m.out) < maxOutbox && m.turn() != nil }

func (m *model) deliver() int {
	if !m.ready() {
		return 0
	}
	w := m.turn()
	m.last = w.number
	r := api.Response{Id: w.id, Op: 64}
	ends := true
	if w.c != nil {
		ends = m.read(w.c, &r)
	} else {
		pairs, state, e := w.p.Next(40, 3000)
		want(m.t, "Next of a snapshot", e, api.OK)
		r.Offset = w.p.Moment()
		for _, p := range pairs {
			r.Records = append(r.Records, value(p.Off, p.Time, p.Key, p.Value))
		}
		ends = state != api.CurOpen
		r.More = !ends
		m.count["a snapshot's piece"]++
	}
	m.send(r)
	if ends {
		m.end(w)
		m.count["a reader's end"]++
	}
	return len(r.Records)
}

// read takes the next piece of a cursor, and tells whether it ends by it.
func (m *model) read(c *cursor.Cursor, r *api.Response) bool {
	piece, e := c.Next(1000, 4051)
	if e != api.OK {
		r.Code = wire.CodeOf(e)
		m.count["an error"]++
		return true
	}
	r.Offset = piece.Next
	switch piece.State {
	case api.CurOpen:
		r.Records, r.More = piece.Recs, true
		m.count["a cursor's piece"]++
		return false
	case api.CurEnd:
		r.Records = piece.Recs
		m.count["a replay's end"]++
	case api.CurPassed:
		r.Code = api.CodeHorizonPassed
		m.count["passed"]++
	}
	return true
}

func (m *model) gone(topic int) int {
	n := 0
	for _, w := range m.readers {
		if w.topic == topic {
			m.send(ended(w.id, api.CodeNoTopic))
			m.end(w)
			n++
		}
	}
	m.count["gone"] += n
	return n
}

func (m *model) take(n int) []byte {
	n = max(0, min(n, len(m.out)))
	b := m.out[:n]
	m.out = m.out[n:]
	return b
}

func (m *model) state() api.SessState {
	state := api.SessState{Inbox: len(m.inbox), Outbox: len(m.out), Owed: len(m.owed), Broken: m.broken}
	for _, w := range m.readers {
		if w.c != nil {
			state.Subs++
		} else {
			state.Snaps++
		}
	}
	return state
}
