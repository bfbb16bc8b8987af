package wire

import (
	"bytes"

	"chronicle/api"
	"chronicle/octet"
	"chronicle/record"
)

// responseMark is the first byte of a response's body.
const responseMark = 0x52

// recordsRoom is how many bytes of records a response without names has room for, whatever else it tells.
const recordsRoom = api.MaxFrame - 45

// CheckResponse tells whether a response may be.
func CheckResponse(r api.Response) api.Errno {
	_, e := EncodeResponse(r) // how long the frame would be, its writing tells
	return e
}

// EncodeResponse writes a response as a frame.
func EncodeResponse(r api.Response) ([]byte, api.Errno) {
	if !isResponse(r) {
		return nil, api.ErrResponse
	}
	return framed(func(w *octet.Writer) { writeResponse(w, r) })
}

// isResponse tells whether all parts of a response may be; together they may be too long still.
func isResponse(r api.Response) bool {
	return (operationOf(r.Op).there || r.Op == api.OpDeliver) &&
		r.Code >= api.CodeOK && r.Code <= api.CodeBeyond &&
		areNames(r.Names) && areRecords(r.Records)
}

func areNames(names []string) bool {
	if len(names) > api.MaxTopics {
		return false
	}
	for _, name := range names {
		if len(name) > api.MaxTopic {
			return false
		}
	}
	return true
}

func areRecords(list []api.Record) bool {
	for _, rec := range list {
		if record.Check(rec) != api.OK {
			return false
		}
	}
	return true
}

func writeResponse(w *octet.Writer, r api.Response) {
	w.Byte(responseMark)
	w.Byte(byte(r.Op))
	w.Byte(byte(r.Code))
	w.Uvarint(uint64(r.Id))
	w.Varint(r.Offset)
	w.Varint(r.Number)
	w.Byte(flag(r.More))
	w.Uvarint(uint64(len(r.Names)))
	for _, name := range r.Names {
		w.Text(name)
	}
	w.Uvarint(uint64(len(r.Records)))
	for _, rec := range r.Records {
		if w.Len() > maxBody {
			return // it is too long already, and a list may go on for long
		}
		b, _ := record.Encode(rec) // it may be
		w.Raw(b)
	}
}

func flag(set bool) byte {
	if set {
		return 1
	}
	return 0
}

// DecodeResponse reads the frame of a response.
func DecodeResponse(b []byte) (api.Response, api.Errno) {
	body, e := Body(b)
	if e != api.OK {
		return api.Response{}, e
	}
	r := readResponse(octet.NewReader(body))
	// As of a request: what is written anew tells all that may be wrong.
	if again, e := EncodeResponse(r); e != api.OK || !bytes.Equal(again, b) {
		return api.Response{}, api.ErrResponse
	}
	return r, api.OK
}

// readResponse is the response that a right one's body tells, and of any other bytes some response.
func readResponse(from *octet.Reader) api.Response {
	from.Byte() // the mark, which is held against the bytes too
	r := api.Response{
		Op:     int(from.Byte()),
		Code:   int(from.Byte()),
		Id:     uint32(from.Uvarint()),
		Offset: from.Varint(),
		Number: from.Varint(),
		More:   from.Byte() == 1,
	}
	for range min(from.Uvarint(), api.MaxTopics) {
		r.Names = append(r.Names, from.Text(api.MaxTopic))
	}
	r.Records = readRecords(from.Uvarint(), from.Raw(from.Rest()))
	return r
}

// readRecords is the first count records that stand one behind the other, or as many of them as are there.
func readRecords(count uint64, b []byte) []api.Record {
	var list []api.Record
	for range count {
		rec, n, e := record.Decode(b)
		if e != api.OK {
			break
		}
		list = append(list, rec)
		b = b[n:]
	}
	return list
}

// Fits tells how many of the records have room in one response.
func Fits(rs []api.Record) int {
	room := recordsRoom
	for i, rec := range rs {
		size := record.Size(rec) // 0 of one that may not be
		if size == 0 || size > room {
			return i
		}
		room -= size
	}
	return len(rs)
}
