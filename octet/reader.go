package octet

import (
	"slices"

	"chronicle/api"
)

// Reader goes through bytes, and fails once and for all.
type Reader struct {
	data []byte
	at   int
	spot api.Spot
}

// NewReader makes one.
func NewReader(b []byte) *Reader { return &Reader{data: slices.Clone(b)} }

// take goes on by n bytes, n not below 0, and tells them without copying them: nobody outside may be handed these.
func (r *Reader) take(n int) []byte {
	if r == nil {
		return nil
	}
	if n > r.Rest() {
		r.Fail(api.ErrShort)
		return nil
	}
	piece := r.data[r.at : r.at+n]
	r.at += n
	return piece
}

// Byte reads a byte.
func (r *Reader) Byte() byte { return byte(r.fixed(1)) }

// Uvarint reads a number.
func (r *Reader) Uvarint() uint64 {
	v, n := r.peekUvarint()
	r.take(n)
	return v
}

// peekUvarint reads a number, or lets the reader fail, and stays ahead of it: so what fails behind the number fails at its place.
func (r *Reader) peekUvarint() (uint64, int) {
	if r == nil {
		return 0, 0
	}
	v, n, e := ReadUvarint(r.data[r.at:])
	r.Fail(e)
	return v, n
}

// Varint reads a number of either sign.
func (r *Reader) Varint() int64 { return Unzigzag(r.Uvarint()) }

// U32 reads four bytes.
func (r *Reader) U32() uint32 { return uint32(r.fixed(4)) }

// U64 reads eight bytes.
func (r *Reader) U64() uint64 { return r.fixed(8) }

// fixed reads a number of so many bytes, the highest one first.
func (r *Reader) fixed(size int) uint64 {
	v := uint64(0)
	for _, c := range r.take(size) {
		v = v<<8 | uint64(c)
	}
	return v
}

// Text reads a length of at most so much, and a text.
func (r *Reader) Text(most int) string {
	length, n := r.peekUvarint()
	if length > uint64(max(most, 0)) {
		r.Fail(api.ErrMuch)
		return ""
	}
	// The length is held against the bytes as an unsigned number, for as an int it could wrap round.
	if length > uint64(max(r.Rest()-n, 0)) {
		r.Fail(api.ErrShort)
		return ""
	}
	r.take(n)
	return string(r.take(int(length)))
}

// Raw reads n bytes.
func (r *Reader) Raw(n int) []byte {
	if n < 0 {
		r.Fail(api.ErrMuch)
		return nil
	}
	return slices.Clone(r.take(n))
}

// Rest tells how many bytes are left.
func (r *Reader) Rest() int {
	if r == nil {
		return 0
	}
	return len(r.data) - r.at
}

// Fail lets it fail.
func (r *Reader) Fail(e api.Errno) {
	if r == nil || e == api.OK || r.spot.Err != api.OK {
		return
	}
	r.spot = api.Spot{Err: e, At: r.at}
	// With no bytes left, every method finds nothing from now on.
	r.data, r.at = nil, 0
}

// End tells the first error and its place.
func (r *Reader) End() api.Spot {
	if r == nil {
		return api.Spot{}
	}
	if r.spot.Err == api.OK && r.Rest() > 0 {
		return api.Spot{Err: api.ErrLeft, At: r.at}
	}
	return r.spot
}
