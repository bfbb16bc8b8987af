package stream

import (
	"chronicle/api"
	"chronicle/wire"
)

// The states of a reader: what it does with the bytes that come.
const (
	givenUp = iota // nothing more is told
	reading        // they belong to pieces that are still to be told
	passing        // they belong to one that is too long, which has been told
)

// work does what the reader's state asks for with the first bytes of a chunk, and tells how many it has taken: of a chunk that has bytes one at least.
func (r *Reader) work(chunk []byte) ([]api.Framed, int) {
	works := [...]func(*Reader, []byte) ([]api.Framed, int){
		givenUp: (*Reader).ignore,
		reading: (*Reader).read,
		passing: (*Reader).pass,
	}
	return works[r.state](r, chunk)
}

// ignore takes all.
func (r *Reader) ignore(chunk []byte) ([]api.Framed, int) { return nil, len(chunk) }

// pass takes what is still to be passed over.
func (r *Reader) pass(chunk []byte) ([]api.Framed, int) {
	taken := min(r.left, len(chunk))
	r.left -= taken
	r.at += int64(taken)
	if r.left == 0 {
		r.state = reading
	}
	return nil, taken
}

// read takes what the memory has room for, and tells the pieces that are there then. The memory is never full behind that, for a piece that fills it can be told.
func (r *Reader) read(chunk []byte) ([]api.Framed, int) {
	taken := copy(r.memory[r.have:], chunk)
	rest := r.memory[:r.have+taken]
	var told []api.Framed
	for {
		piece, size := r.first(rest)
		if size == 0 {
			break
		}
		told = append(told, piece)
		rest = rest[size:]
		r.at += int64(size)
	}
	r.have = copy(r.memory, rest)
	return told, taken
}

// first tells the piece that begins with the first of the bytes, and how many of them belong to it: 0, if it can't be told yet.
func (r *Reader) first(rest []byte) (api.Framed, int) {
	size, e := wire.Head(rest)
	switch {
	case e == api.ErrFrame:
		r.state, r.memory = givenUp, nil // no byte is kept any more
		return api.Framed{Kind: api.StDead, At: r.at, Err: e}, len(rest)
	case size > len(r.memory):
		// It is longer than the memory, so all that stands there is its own.
		r.state, r.left = passing, size-len(rest)
		return api.Framed{Kind: api.StBad, At: r.at, Err: api.ErrHuge}, len(rest)
	case e == api.ErrShort || size > len(rest):
		return api.Framed{}, 0
	}
	body, e := wire.Body(rest[:size])
	if e != api.OK {
		return api.Framed{Kind: api.StBad, At: r.at, Err: e}, size
	}
	return api.Framed{Kind: api.StFrame, Body: body, At: r.at}, size
}
