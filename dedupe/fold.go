package dedupe

import (
	"chronicle/api"
	"chronicle/record"
)

// Fold tells the table behind records.
func Fold(ps []api.Prod, recs []api.Record) ([]api.Prod, api.Errno) {
	t, errno := New(ps)
	if errno != api.OK {
		return nil, errno
	}
	for _, r := range recs {
		if errno := t.pass(r); errno != api.OK {
			return nil, errno
		}
	}
	return t.List(), api.OK
}

// pass notes a record that was taken long ago. Others of its producer may be missing ahead of it, for a merge leaves out what is superseded; so it is not judged.
func (t *Table) pass(r api.Record) api.Errno {
	if errno := record.Check(r); errno != api.OK {
		return errno
	}
	if r.Pid == 0 {
		return api.OK
	}
	last, known := t.prods[r.Pid]
	if !known && t.isFull() {
		return api.ErrProds
	}
	if last.Seq < r.Seq { // as it is of one that is not known: its last number is 0
		t.keep(api.Prod{Pid: r.Pid, Seq: r.Seq, Off: r.Offset})
	}
	return api.OK
}
