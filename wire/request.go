package wire

import (
	"bytes"

	"chronicle/api"
	"chronicle/octet"
)

// requestMark is the first byte of a request's body; no response has it.
const requestMark = 0x51

// The fields that an operation may use, a bit for each.
const (
	useTopic = 1 << iota
	useKey
	useValue
	useOffset
	useNumber
	usePid
	useSeq
)

// operation is what the requests of an operation use, if there is such an operation.
type operation struct {
	there bool
	uses  int
}

var operations = [...]operation{
	api.OpPing:        {true, 0},
	api.OpCreate:      {true, useTopic | useNumber},
	api.OpDrop:        {true, useTopic},
	api.OpList:        {true, useKey},
	api.OpPut:         {true, useTopic | useKey | useValue | usePid | useSeq},
	api.OpDelete:      {true, useTopic | useKey | usePid | useSeq},
	api.OpGet:         {true, useTopic | useKey},
	api.OpReplay:      {true, useTopic | useOffset},
	api.OpSnapshot:    {true, useTopic | useKey},
	api.OpSubscribe:   {true, useTopic | useOffset},
	api.OpUnsubscribe: {true, useNumber},
	api.OpJoin:        {true, useKey},
	api.OpCommit:      {true, useTopic | useKey | useOffset | useNumber},
	api.OpPosition:    {true, useTopic | useKey},
	api.OpStat:        {true, useTopic},
}

// operationOf is the row of an operation, and of a number that is none an empty one.
func operationOf(op int) operation {
	if op < 0 || op >= len(operations) {
		return operation{}
	}
	return operations[op]
}

func (o operation) asks(use int) bool { return o.uses&use != 0 }

// textField and numberField are a field of a request: its bit, and where it stands.
type textField struct {
	use, most int
	at        *string
}

type numberField struct {
	use int
	at  *int64
}

// textsOf is the texts of a request, in the order in which they are written.
func textsOf(r *api.Request) []textField {
	return []textField{
		{useTopic, api.MaxTopic, &r.Topic},
		{useKey, api.MaxKey, &r.Key},
		{useValue, api.MaxValue, &r.Value},
	}
}

// numbersOf is the numbers of a request, in the order in which they are written, behind the texts.
func numbersOf(r *api.Request) []numberField {
	return []numberField{
		{useOffset, &r.Offset},
		{useNumber, &r.Number},
		{usePid, &r.Pid},
		{useSeq, &r.Seq},
	}
}

// CheckRequest tells whether a request may be.
func CheckRequest(r api.Request) api.Errno {
	op := operationOf(r.Op)
	if !op.there || !op.fits(&r) {
		return api.ErrRequest
	}
	return api.OK
}

// fits tells whether each field may be as it is.
func (o operation) fits(r *api.Request) bool {
	for _, f := range textsOf(r) {
		if len(*f.at) > f.most || *f.at != "" && !o.asks(f.use) {
			return false
		}
	}
	for _, f := range numbersOf(r) {
		if *f.at < 0 || *f.at != 0 && !o.asks(f.use) {
			return false
		}
	}
	return true
}

// EncodeRequest writes a request as a frame.
func EncodeRequest(r api.Request) ([]byte, api.Errno) {
	if e := CheckRequest(r); e != api.OK {
		return nil, e
	}
	return framed(func(w *octet.Writer) { writeRequest(w, r) })
}

func writeRequest(w *octet.Writer, r api.Request) {
	w.Byte(requestMark)
	w.Byte(byte(r.Op))
	w.Uvarint(uint64(r.Id))
	op := operationOf(r.Op)
	for _, f := range textsOf(&r) {
		if op.asks(f.use) {
			w.Text(*f.at)
		}
	}
	for _, f := range numbersOf(&r) {
		if op.asks(f.use) {
			w.Uvarint(uint64(*f.at))
		}
	}
}

// DecodeRequest reads the frame of a request.
func DecodeRequest(b []byte) (api.Request, api.Errno) {
	body, e := Body(b)
	if e != api.OK {
		return api.Request{}, e
	}
	r := readRequest(octet.NewReader(body))
	// What was read is held against the bytes by writing it anew: so all that may be wrong in the body is looked at once.
	if again, e := EncodeRequest(r); e != api.OK || !bytes.Equal(again, b) {
		return api.Request{}, api.ErrRequest
	}
	return r, api.OK
}

// readRequest is the request that a right one's body tells, and of any other bytes some request.
func readRequest(from *octet.Reader) api.Request {
	from.Byte() // the mark, which is held against the bytes too
	r := api.Request{Op: int(from.Byte()), Id: uint32(from.Uvarint())}
	op := operationOf(r.Op)
	for _, f := range textsOf(&r) {
		if op.asks(f.use) {
			*f.at = from.Text(f.most)
		}
	}
	for _, f := range numbersOf(&r) {
		if op.asks(f.use) {
			*f.at = int64(from.Uvarint())
		}
	}
	return r
}
