package record

import "chronicle/api"

// Scan reads the longest first part that is records with rising offsets, and tells why it ends there.
func Scan(b []byte) ([]api.Record, int, api.Errno) {
	var list []api.Record
	last := int64(-1) // below every offset
	at := 0
	for at < len(b) {
		r, size, e := Decode(b[at:])
		if e == api.OK && r.Offset <= last {
			e = api.ErrBroken
		}
		if e != api.OK {
			return list, at, e
		}
		list = append(list, r)
		last = r.Offset
		at += size
	}
	return list, at, api.OK
}

// Salvage tells every whole record, wherever it stands.
func Salvage(b []byte) []api.Found {
	var list []api.Found
	for at := 0; at < len(b); {
		r, size, e := Decode(b[at:])
		if e != api.OK {
			at++
			continue
		}
		list = append(list, api.Found{At: at, Rec: r})
		at += size
	}
	return list
}
