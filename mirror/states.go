package mirror

import "chronicle/api"

// What a mirror is at on its connection: what it does with a response hangs on that.
const (
	asking      = iota // a request is to be sent
	subscribing        // a subscription was asked for
	tailing            // it is answered, and records come
	beginning          // a snapshot was asked for
	gathering          // it is answered, and values come
	idle               // nothing more is asked
	broken             // what came was no answer
)

// take does what a response asks for.
func (m *Mirror) take(now int64, r api.Response) api.Errno {
	deeds := [...]func(*Mirror, int64, api.Response) api.Errno{
		asking:      (*Mirror).refuse,
		subscribing: (*Mirror).subscribe,
		tailing:     (*Mirror).follow,
		beginning:   (*Mirror).begin,
		gathering:   (*Mirror).gather,
		idle:        (*Mirror).ignore,
		broken:      (*Mirror).refuse,
	}
	switch {
	case m.isPast(r):
		return api.OK
	case m.isRefusal(r):
		m.giveWay(r.Code)
		return api.OK
	}
	return deeds[m.state](m, now, r)
}

// waits tells whether the last request that was told is answered, or goes on being answered.
func (c *connection) waits() bool { return subscribing <= c.state && c.state <= gathering }

// isPast tells whether this is a delivery of a request that the mirror is done with.
func (c *connection) isPast(r api.Response) bool {
	if r.Id == c.asked && c.waits() {
		return false
	}
	return r.Op == api.OpDeliver && 1 <= r.Id && r.Id <= c.asked
}

// isRefusal tells whether the source does not do what was asked for last, or does not go on with it.
func (c *connection) isRefusal(r api.Response) bool {
	if r.Id != c.asked || !c.waits() {
		return false
	}
	return (r.Op == c.operation() || r.Op == api.OpDeliver) && r.Code != api.CodeOK
}

// isAnswer tells whether this is about the request that was told last, by this operation; what is refused is asked ahead of it.
func (c *connection) isAnswer(r api.Response, op int) bool { return r.Id == c.asked && r.Op == op }

// giveWay takes a refusal for what its code says.
func (c *connection) giveWay(code int) {
	if code == api.CodeHorizonPassed || code == api.CodeBeyond && !c.snapping {
		c.startOver()
		return
	}
	c.rest(idle)
}

// startOver lets a snapshot be asked for.
func (c *connection) startOver() { c.state, c.snapping, c.snap = asking, true, snapshot{} }

// refuse is what is done where nothing is expected.
func (m *Mirror) refuse(int64, api.Response) api.Errno { return api.ErrSource }

// ignore is what is done where nothing is looked at.
func (m *Mirror) ignore(int64, api.Response) api.Errno { return api.OK }

// isNumber tells whether a topic that clients know may have that number.
func isNumber(n int64) bool { return 1 <= n && n < api.MaxId }

// isPosition tells whether a reader may stand there.
func isPosition(n int64) bool { return 0 <= n && n <= api.MaxOffset }

// apply lets the copy have what a record says.
func (m *Mirror) apply(now int64, r api.Record) api.Errno {
	_, _, e := m.copy.Append(now, api.Write{Key: r.Key, Value: r.Value, Tombstone: r.Kind == api.KTombstone})
	return e
}
