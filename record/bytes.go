package record

import (
	"chronicle/api"
	"chronicle/octet"
	"chronicle/squeeze"
)

// The flags at a body's head.
const (
	flagTombstone = 1 << iota
	flagSqueezed
	flagProducer
	flagsEnd // all that there are add up to less
)

// Where the parts of a record's bytes begin, and how long a body may be.
const (
	lengthAt = 1
	sumAt    = 5
	bodyAt   = 9
	minBody  = 5
	maxBody  = 1115
)

// Encode writes a record.
func Encode(r api.Record) ([]byte, api.Errno) {
	if e := Check(r); e != api.OK {
		return nil, e
	}
	body := bodyOf(r)
	w := octet.NewWriter()
	w.Byte(api.RecordMark)
	w.U32(uint32(len(body)))
	w.U32(sumOf(w.Bytes(), body))
	w.Raw(body)
	return w.Bytes(), api.OK
}

// Size tells how many bytes it has.
func Size(r api.Record) int {
	b, _ := Encode(r) // none of a record that may not be
	return len(b)
}

// sumOf is the sum of the length in a record's head and of its body.
func sumOf(head, body []byte) uint32 {
	return octet.Extend(octet.Sum(head[lengthAt:sumAt]), body)
}

// bodyOf is the body of a record that may be.
func bodyOf(r api.Record) []byte {
	value := []byte(r.Value)
	block, _ := squeeze.Encode(value) // a value is not too long for a block
	flags := byte(0)
	if r.Kind == api.KTombstone {
		flags |= flagTombstone
	}
	if len(block) < len(value) {
		flags |= flagSqueezed
		value = block
	}
	if r.Pid > 0 {
		flags |= flagProducer
	}
	w := octet.NewWriter()
	w.Byte(flags)
	w.Uvarint(uint64(r.Offset))
	w.Uvarint(uint64(r.Time))
	if r.Pid > 0 {
		w.Uvarint(uint64(r.Pid))
		w.Uvarint(uint64(r.Seq))
	}
	w.Text(r.Key)
	w.Raw(value)
	return w.Bytes()
}

// Decode reads the record at the head, and tells how many bytes it has.
func Decode(b []byte) (api.Record, int, api.Errno) {
	size, e := whole(b)
	if e != api.OK {
		return api.Record{}, 0, e
	}
	body := b[bodyAt:size]
	if fixed(b[sumAt:bodyAt]) != sumOf(b, body) {
		return api.Record{}, 0, api.ErrBroken
	}
	rec, ok := readBody(body)
	if !ok {
		return api.Record{}, 0, api.ErrBroken
	}
	return rec, size, api.OK
}

// whole tells how many bytes the record at the head of b has, if its mark and its length may be and all of it is there.
func whole(b []byte) (int, api.Errno) {
	if len(b) > 0 && b[0] != api.RecordMark {
		return 0, api.ErrBroken
	}
	if len(b) < sumAt {
		return 0, api.ErrTorn
	}
	n := fixed(b[lengthAt:sumAt])
	if n < minBody || n > maxBody {
		return 0, api.ErrBroken
	}
	size := bodyAt + int(n)
	if len(b) < size {
		return 0, api.ErrTorn
	}
	return size, api.OK
}

// fixed reads a number of four bytes.
func fixed(b []byte) uint32 { return octet.NewReader(b).U32() }

// readBody reads the record of a body, and tells whether it is one's body, just as it would be written.
func readBody(body []byte) (api.Record, bool) {
	r := octet.NewReader(body)
	rec := api.Record{Kind: api.KValue}
	flags := r.Byte()
	if flags&flagTombstone != 0 {
		rec.Kind = api.KTombstone
	}
	// What is too great for an int64 comes to be below 0, and that may not be either.
	rec.Offset, rec.Time = int64(r.Uvarint()), int64(r.Uvarint())
	made := flags&flagProducer != 0
	if made {
		rec.Pid, rec.Seq = int64(r.Uvarint()), int64(r.Uvarint())
	}
	rec.Key = r.Text(api.MaxKey)
	rec.Value = readValue(r, flags&flagSqueezed != 0)
	if flags >= flagsEnd || made && rec.Pid == 0 || Check(rec) != api.OK {
		r.Fail(api.ErrBroken)
	}
	return rec, r.End().Err == api.OK
}

// readValue reads the value, which takes all that is left, and fails where it would have been written the other way.
func readValue(r *octet.Reader, squeezed bool) string {
	rest := r.Raw(r.Rest())
	value, block := rest, rest
	if squeezed {
		value, _ = squeeze.Decode(rest) // nothing of what is no block: that is not longer than it
	} else {
		block, _ = squeeze.Encode(rest)
	}
	if squeezed != (len(block) < len(value)) {
		r.Fail(api.ErrBroken)
	}
	return string(value)
}
