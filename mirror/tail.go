package mirror

import "chronicle/api"

// subscribe takes the answer to a subscription. Where the topic has another number than the one that was followed, the copy is none of it.
func (m *Mirror) subscribe(_ int64, r api.Response) api.Errno {
	if !m.isAnswer(r, api.OpSubscribe) || r.Offset != m.at.position || !isNumber(r.Number) {
		return api.ErrSource
	}
	if m.at.number != 0 && m.at.number != r.Number {
		m.startOver()
		return api.OK
	}
	m.at.number = r.Number
	m.state = tailing
	return api.OK
}

// follow applies a delivery of records.
func (m *Mirror) follow(now int64, r api.Response) api.Errno {
	if !m.isAnswer(r, api.OpDeliver) || !r.More || !m.leadsOn(r) {
		return api.ErrSource
	}
	for _, rec := range r.Records {
		if e := m.apply(now, rec); e != api.OK {
			return e
		}
		m.at.position = rec.Offset + 1
	}
	m.at.position = r.Offset
	return api.OK
}

// leadsOn tells whether a delivery goes on where the mirror stands, by the offsets of its records and the one behind them.
func (m *Mirror) leadsOn(r api.Response) bool {
	next := m.at.position
	for _, rec := range r.Records {
		if rec.Offset < next {
			return false
		}
		next = rec.Offset + 1
	}
	return next <= r.Offset && isPosition(r.Offset)
}
