package session

import (
	"chronicle/api"
	"chronicle/cursor"
	"chronicle/wire"
)

// How much one delivery asks for: what it is answered has room in one frame.
const (
	mostRecords  = 1000
	recordsBytes = api.MaxFrame - 45
	mostPairs    = 40
	pairsBytes   = 3000
)

// source is what a reader is delivered from.
type source interface {
	ready() bool        // has it something to tell?
	tell() api.Response // the next piece; it is the last one, unless it says More
	Close() api.Errno
}

// Cursors and snapshots are counted apart.
const (
	cursors = iota
	snaps
)

// cursorSource is a replay or a tail.
type cursorSource struct{ *cursor.Cursor }

func (c cursorSource) ready() bool { return !c.Waits() }

func (c cursorSource) tell() api.Response {
	p, e := c.Next(mostRecords, recordsBytes)
	switch {
	case e != api.OK:
		return api.Response{Code: wire.CodeOf(e)}
	case p.State == api.CurPassed:
		return api.Response{Code: api.CodeHorizonPassed, Offset: p.Next}
	}
	return api.Response{Offset: p.Next, Records: p.Recs, More: p.State == api.CurOpen}
}

// snapSource is a snapshot.
type snapSource struct{ *cursor.Snap }

func (p snapSource) ready() bool { return true }

func (p snapSource) tell() api.Response {
	pairs, state, e := p.Next(mostPairs, pairsBytes)
	if e != api.OK { // it was closed ahead of its being held, and would be open for ever
		return api.Response{Code: wire.CodeOf(e)}
	}
	r := api.Response{Offset: p.Moment(), More: state == api.CurOpen}
	for _, x := range pairs {
		r.Records = append(r.Records, api.Record{Kind: api.KValue, Offset: x.Off, Time: x.Time, Key: x.Key, Value: x.Value})
	}
	return r
}
