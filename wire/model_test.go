package wire_test

import (
	"bytes"
	"encoding/binary"
	"hash/crc32"

	"chronicle/api"
	"chronicle/record"
)

// piece is a part of a body: a short number (a length too), or other bytes.
type piece struct {
	number bool
	b      []byte
}

func short(n uint64) piece { return piece{true, binary.AppendUvarint(nil, n)} }

func plain(b ...byte) piece { return piece{b: b} }

func text(s string) []piece { return []piece{short(uint64(len(s))), plain([]byte(s)...)} }

func join(list []piece) []byte {
	var b []byte
	for _, p := range list {
		b = append(b, p.b...)
	}
	return b
}

// slowFrame lays the head of a frame ahead of any body, with the right sum.
func slowFrame(body []byte) []byte {
	summed := append(binary.BigEndian.AppendUint32(nil, uint32(len(body))), body...)
	sum := crc32.Checksum(summed, crc32.MakeTable(crc32.Castagnoli))
	b := append([]byte{0xc5}, summed[:4]...)
	return append(binary.BigEndian.AppendUint32(b, sum), body...)
}

// slowRequest is a request's body, as the chapter tells it.
func slowRequest(r api.Request) []piece {
	list := []piece{plain(0x51), plain(byte(r.Op)), short(uint64(r.Id))}
	for _, field := range fields() {
		switch {
		case !uses(r.Op, field):
		case most(field) > 0:
			list = append(list, text(textIn(r, field))...)
		default:
			list = append(list, short(uint64(numberIn(r, field))))
		}
	}
	return list
}

// zigzag folds the numbers below 0 in between the others.
func zigzag(n int64) uint64 {
	if n < 0 {
		return 2*uint64(-(n+1)) + 1
	}
	return 2 * uint64(n)
}

func unzigzag(u uint64) int64 {
	if u%2 == 1 {
		return -int64(u/2) - 1
	}
	return int64(u / 2)
}

// slowResponse is a response's body, as the chapter tells it.
func slowResponse(r api.Response) []piece {
	list := []piece{plain(0x52), plain(byte(r.Op)), plain(byte(r.Code)), short(uint64(r.Id)), short(zigzag(r.Offset)), short(zigzag(r.Number))}
	more := byte(0)
	if r.More {
		more = 1
	}
	list = append(list, plain(more), short(uint64(len(r.Names))))
	for _, name := range r.Names {
		list = append(list, text(name)...)
	}
	list = append(list, short(uint64(len(r.Records))))
	for _, rec := range r.Records {
		b, _ := record.Encode(rec)
		list = append(list, plain(b...))
	}
	return list
}

// rightRequest tells whether a request may be.
func rightRequest(r api.Request) bool {
	_, right := usage()[r.Op]
	for _, field := range fields() {
		if n := most(field); n > 0 {
			s := textIn(r, field)
			right = right && len(s) <= n && (s == "" || uses(r.Op, field))
		} else {
			v := numberIn(r, field)
			right = right && v >= 0 && (v == 0 || uses(r.Op, field))
		}
	}
	return right
}

// slowCheck is what CheckResponse has to say.
func slowCheck(r api.Response) api.Errno {
	_, right := usage()[r.Op]
	right = right || r.Op == 64
	right = right && 0 <= r.Code && r.Code <= 11 && len(r.Names) <= 16
	for _, name := range r.Names {
		right = right && len(name) <= 24
	}
	for _, rec := range r.Records {
		right = right && record.Check(rec) == api.OK
	}
	switch {
	case !right:
		return api.ErrResponse
	case len(slowFrame(join(slowResponse(r)))) > maxFrame:
		return api.ErrHuge
	}
	return api.OK
}

// parser reads a body from the left; what is wrong makes it bad for good.
type parser struct {
	b   []byte
	bad bool
}

func (p *parser) fail() { p.b, p.bad = nil, true }

func (p *parser) byte() byte {
	if len(p.b) == 0 {
		p.fail()
		return 0
	}
	c := p.b[0]
	p.b = p.b[1:]
	return c
}

func (p *parser) number(last uint64) uint64 {
	v, n := binary.Uvarint(p.b)
	if n <= 0 || v > last || !bytes.Equal(binary.AppendUvarint(nil, v), p.b[:n]) {
		p.fail()
		return 0
	}
	p.b = p.b[n:]
	return v
}

func (p *parser) text(most int) string {
	n := int(p.number(uint64(most)))
	if n > len(p.b) {
		p.fail()
		return ""
	}
	s := string(p.b[:n])
	p.b = p.b[n:]
	return s
}

func (p *parser) record() api.Record {
	r, n, e := record.Decode(p.b)
	if e != api.OK {
		p.fail()
		return r
	}
	p.b = p.b[n:]
	return r
}

// readRequest reads a request's body as the chapter tells it, and tells whether it is one.
func readRequest(body []byte) (api.Request, bool) {
	p := &parser{b: body}
	mark := p.byte()
	r := api.Request{Op: int(p.byte()), Id: uint32(p.number(lastId))}
	for _, field := range fields() {
		switch {
		case !uses(r.Op, field):
		case most(field) > 0:
			r = with(r, field, p.text(most(field)))
		default:
			r = with(r, field, int64(p.number(lastNumber)))
		}
	}
	if p.bad || len(p.b) > 0 || mark != 0x51 || !rightRequest(r) {
		return api.Request{}, false
	}
	return r, true
}

// readResponse reads a response's body as the chapter tells it, and tells whether it is one.
func readResponse(body []byte) (api.Response, bool) {
	p := &parser{b: body}
	mark := p.byte()
	r := api.Response{Op: int(p.byte()), Code: int(p.byte()), Id: uint32(p.number(lastId))}
	r.Offset, r.Number = unzigzag(p.number(1<<64-1)), unzigzag(p.number(1<<64-1))
	more := p.byte()
	r.More = more == 1
	for range p.number(16) {
		r.Names = append(r.Names, p.text(24))
	}
	for n := p.number(1<<64 - 1); n > 0 && !p.bad; n-- {
		r.Records = append(r.Records, p.record())
	}
	if p.bad || len(p.b) > 0 || mark != 0x52 || more > 1 || slowCheck(r) != api.OK {
		return api.Response{}, false
	}
	return r, true
}
