package dedupe

import "chronicle/api"

// wrong is the verdict on numbers that no record may have. It stands right below the others, which api counts.
const wrong = -1

// refusals has the error of each verdict; wrong, the lowest, stands first.
var refusals = [...]api.Errno{
	wrong - wrong:      api.ErrPid,
	api.VFree - wrong:  api.OK,
	api.VFresh - wrong: api.OK,
	api.VAgain - wrong: api.OK,
	api.VStale - wrong: api.ErrStale,
	api.VGap - wrong:   api.ErrSeq,
	api.VFull - wrong:  api.ErrProds,
}

// Judge tells what a number is.
func (t *Table) Judge(pid, seq int64) (int, int64) {
	switch {
	case t == nil:
		return wrong, 0
	case pid == 0 && seq == 0:
		return api.VFree, 0
	case !isNumbered(pid, seq):
		return wrong, 0
	}
	// A producer that is not in the table has the last number 0, and what follows holds of it too.
	last, known := t.prods[pid]
	switch {
	case seq == last.Seq:
		return api.VAgain, last.Off
	case seq < last.Seq:
		return api.VStale, 0
	case seq > last.Seq+1:
		return api.VGap, 0
	case !known && t.isFull():
		return api.VFull, 0
	}
	return api.VFresh, 0
}

// Refuse tells why a number is not taken.
func (t *Table) Refuse(pid, seq int64) api.Errno {
	if t == nil {
		return api.ErrNil
	}
	verdict, _ := t.Judge(pid, seq)
	return refusals[verdict-wrong]
}
