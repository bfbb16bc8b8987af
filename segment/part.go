package segment

import (
	"bytes"
	"iter"

	"chronicle/api"
	"chronicle/octet"
	"chronicle/record"
)

// part is a first part of a segment's bytes that is right, and goes as far as what has been found or written.
type part struct {
	info api.SegInfo // what it says of itself
	sum  uint32      // of all its bytes: the tail tells it
}

// begun is the part that is a head alone.
func begun(topic, number int, base int64, head []byte) part {
	info := api.SegInfo{Topic: topic, Number: number, Base: base, Size: len(head), Last: base - 1}
	return part{info: info, sum: octet.Sum(head)}
}

// headOf writes a head.
func headOf(topic, number int, base int64) []byte {
	w := octet.NewWriter()
	w.Byte(api.SegmentMark)
	w.U32(uint32(topic))
	w.U32(uint32(number))
	w.U64(uint64(base))
	w.U32(octet.Sum(w.Bytes()))
	return w.Bytes()
}

// readHead is the part that the head of b is, and tells whether it is a right one.
func readHead(b []byte) (part, bool) {
	r := octet.NewReader(b[:min(len(b), api.SegHead)])
	r.Byte() // mark and sum are looked at when the head is held against the one that is written of its numbers
	// A base that is too great for an int64 comes to be below 0, and that may not be either.
	topic, number, base := int(r.U32()), int(r.U32()), int64(r.U64())
	if !isId(topic) || !isId(number) || !isBase(base) {
		return part{}, false
	}
	head := headOf(topic, number, base)
	if !bytes.HasPrefix(b, head) {
		return part{}, false
	}
	return begun(topic, number, base, head), true
}

// records gives the records that stand in b behind the part, one by one, as far as they are right. The part grows by each.
func (p *part) records(b []byte) iter.Seq[api.Placed] {
	return func(yield func(api.Placed) bool) {
		for r, ok := p.next(b); ok && yield(r); r, ok = p.next(b) {
		}
	}
}

// next is the record that stands in b behind the part, which grows by it, and tells whether there is one.
func (p *part) next(b []byte) (api.Placed, bool) {
	at := p.info.Size
	r, size, e := record.Decode(b[at:])
	if e != api.OK || r.Offset <= p.info.Last {
		return api.Placed{}, false
	}
	return p.grow(r, b[at:at+size:at+size]), true
}

// grow lays a record's bytes behind the part, and tells their place.
func (p *part) grow(r api.Record, b []byte) api.Placed {
	placed := api.Placed{Rec: r, Pos: p.info.Size, Len: len(b)}
	p.lay(b)
	p.info.Count++
	p.info.Last = r.Offset
	return placed
}

// lay lays bytes behind the part.
func (p *part) lay(b []byte) {
	p.info.Size += len(b)
	p.sum = octet.Extend(p.sum, b)
}

// tail writes the tail of the part.
func (p *part) tail() []byte {
	w := octet.NewWriter()
	w.Byte(api.SealMark)
	w.U32(uint32(p.info.Count))
	w.U64(uint64(p.info.Last))
	w.U32(octet.Extend(p.sum, w.Bytes()))
	return w.Bytes()
}

// takeTail lets the part go on to its tail, if that stands in b behind it.
func (p *part) takeTail(b []byte) {
	if tail := p.tail(); bytes.HasPrefix(b[p.info.Size:], tail) {
		p.end(tail)
	}
}

// end lays the tail behind the part.
func (p *part) end(tail []byte) {
	p.lay(tail)
	p.info.Sealed = true
}

// Look tells what a file's bytes say: the longest first part that is right.
func Look(b []byte) (api.SegInfo, []api.Placed, api.Spot) {
	p, ok := readHead(b)
	if !ok {
		return api.SegInfo{}, nil, api.Spot{Err: api.ErrSegment}
	}
	var list []api.Placed
	for r := range p.records(b) {
		list = append(list, r)
	}
	p.takeTail(b)
	spot := api.Spot{At: p.info.Size}
	if p.info.Size < len(b) {
		spot.Err = api.ErrSegment
	}
	return p.info, list, spot
}
