package hint

import (
	"bytes"

	"chronicle/api"
	"chronicle/octet"
)

const (
	lengthAt = 1 // where the body's length stands, behind the mark
	bodyAt   = 9 // where the body begins, behind its length and the sum

	// In a segment there is no room for more records.
	mostEntries = (api.MaxSeg - api.SegHead - api.SegTail) / minLen
)

// Encode writes a hint.
func Encode(h api.Hint) ([]byte, api.Errno) {
	if !isRight(h) {
		return nil, api.ErrHint
	}
	body := bodyOf(h)
	w := octet.NewWriter()
	w.Byte(api.HintMark)
	w.U32(uint32(len(body)))
	w.U32(octet.Extend(octet.Sum(w.Bytes()[lengthAt:]), body))
	w.Raw(body)
	return w.Bytes(), api.OK
}

// bodyOf is the body of a right hint.
func bodyOf(h api.Hint) []byte {
	w := octet.NewWriter()
	w.Uvarint(uint64(h.Seg))
	w.Uvarint(uint64(h.Size))
	w.Uvarint(uint64(len(h.Entries)))
	ahead := beginning()
	for _, e := range h.Entries {
		writeEntry(w, e, ahead)
		ahead = e
	}
	return w.Bytes()
}

func writeEntry(w *octet.Writer, e, ahead api.HintEntry) {
	w.Uvarint(uint64(e.Off - ahead.Off))
	w.Uvarint(uint64(e.Time))
	w.Uvarint(uint64(e.Pos - ahead.Pos - ahead.Len))
	long := 2 * uint64(e.Len)
	if e.Dead {
		long++
	}
	w.Uvarint(long)
	w.Text(e.Key)
}

// Decode reads one.
func Decode(b []byte) (api.Hint, api.Errno) {
	h := readBody(b[min(bodyAt, len(b)):])
	// What was read is held against the bytes by writing it anew: so mark, length, sum and all that may be wrong in the body are looked at once.
	if again, e := Encode(h); e != api.OK || !bytes.Equal(again, b) {
		return api.Hint{}, api.ErrHint
	}
	return h, api.OK
}

// readBody is the hint that a right one's body tells, and of any other bytes some hint.
func readBody(body []byte) api.Hint {
	r := octet.NewReader(body)
	h := api.Hint{Seg: int(r.Uvarint()), Size: int(r.Uvarint())}
	ahead := beginning()
	for range min(r.Uvarint(), mostEntries) {
		e := readEntry(r, ahead)
		h.Entries = append(h.Entries, e)
		ahead = e
	}
	return h
}

func readEntry(r *octet.Reader, ahead api.HintEntry) api.HintEntry {
	off, time, gap, long := r.Uvarint(), r.Uvarint(), r.Uvarint(), r.Uvarint()
	return api.HintEntry{
		Off:  ahead.Off + int64(off),
		Time: int64(time),
		Pos:  ahead.Pos + ahead.Len + int(gap),
		Len:  int(long / 2),
		Dead: long%2 == 1,
		Key:  r.Text(api.MaxKey),
	}
}
