package dedupe_test

import (
	"slices"
	"testing"

	"chronicle/api"
	"chronicle/dedupe"
	"chronicle/probe"
)

// history is what a table was told to be fresh, by producer, with the offsets that were noted.
type history struct {
	offs map[int64][]int64
	recs []api.Record
}

func (h *history) copy() *history {
	c := &history{offs: map[int64][]int64{}, recs: slices.Clone(h.recs)}
	for pid, offs := range h.offs {
		c.offs[pid] = slices.Clone(offs)
	}
	return c
}

// hand hands one record to a table, and holds what comes of it against what was fresh before.
func (h *history) hand(t *testing.T, table *dedupe.Table, pid, seq, off int64) {
	t.Helper()
	verdict, at := table.Judge(pid, seq)
	taken := int64(len(h.offs[pid]))
	switch verdict {
	case api.VFresh:
		if pid < 1 || seq != taken+1 {
			t.Errorf("the number %d of %d is fresh behind %d of them", seq, pid, taken)
		}
		want(t, "Note", table.Note(pid, seq, off), api.OK)
		h.offs[pid] = append(h.offs[pid], off)
		h.recs = append(h.recs, rec(off, pid, seq))
	case api.VAgain:
		if seq != taken || seq < 1 || at != h.offs[pid][seq-1] {
			t.Errorf("the number %d of %d is told again, with %d; it has %v", seq, pid, at, h.offs[pid])
		}
	case api.VFree:
		h.recs = append(h.recs, rec(off, 0, 0))
	default:
		if pid >= 1 && seq == taken+1 && (verdict != api.VFull || taken > 0 || len(h.offs) < api.MaxProds) {
			t.Errorf("the number %d of %d is not fresh behind %d of them, but %d", seq, pid, taken, verdict)
		}
	}
}

// wantFolded fails unless a fold of all that was noted is the table's list.
func (h *history) wantFolded(t *testing.T, table *dedupe.Table) {
	t.Helper()
	wantFold(t, "what was noted", nil, h.recs, table.List(), api.OK)
}

// 9.8 and 9.9: all rows of up to five records, of two producers and of none.
func TestExactlyOnceOfAllShortRows(t *testing.T) {
	type one struct{ pid, seq int64 }
	var all []one
	for pid := range int64(3) {
		for seq := range int64(4) {
			all = append(all, one{pid, seq})
		}
	}
	var try func(table *dedupe.Table, h *history, depth int)
	try = func(table *dedupe.Table, h *history, depth int) {
		h.wantFolded(t, table)
		if depth == 0 {
			return
		}
		for _, x := range all {
			next, after := table.Clone(), h.copy()
			after.hand(t, next, x.pid, x.seq, 100*x.pid+10*x.seq+int64(depth))
			try(next, after, depth-1)
		}
	}
	table, _ := tableOf(t, nil)
	try(table, &history{offs: map[int64][]int64{}}, 5)
}

// 9.8 and 9.9: long rows of any numbers, with more producers than there is room for, and with any offsets.
func TestExactlyOnceOfLongRows(t *testing.T) {
	for seed := range uint64(30) {
		table, _ := tableOf(t, nil)
		h := &history{offs: map[int64][]int64{}}
		for i, x := range probe.Noise(seed+1, 2000) {
			pid := int64(x % (3 * (seed + 1)))
			seq := int64(len(h.offs[pid])) + int64(x>>12%5) - 1
			if pid == 0 {
				seq = int64(x >> 12 % 2)
			}
			h.hand(t, table, pid, seq, int64(x>>24))
			if i%100 == 0 {
				h.wantFolded(t, table)
			}
		}
		h.wantFolded(t, table)
		for pid, offs := range h.offs {
			wantJudged(t, table, pid, int64(len(offs)), api.VAgain, offs[len(offs)-1])
		}
	}
}

// 9.10

// A list in two pieces, wherever it is cut.
func TestFoldInTwoPieces(t *testing.T) {
	for seed := range uint64(30) {
		for _, ps := range [][]api.Prod{nil, {{Pid: 2, Seq: 4, Off: 900}}, many(20)} {
			recs := noisy(seed+1, 40, 30)
			whole := fold(t, ps, recs)
			for cut := range len(recs) + 1 {
				wantFold(t, "in two pieces", fold(t, ps, recs[:cut]), recs[cut:], whole, api.OK)
			}
		}
	}
}

// Each part of a short list once more.
func TestFoldOfPartsOnceMore(t *testing.T) {
	for seed := range uint64(12) {
		for _, ps := range [][]api.Prod{nil, {{Pid: 2, Seq: 4, Off: 900}}, many(62)} {
			recs := noisy(seed+1, 9, 3)
			whole := fold(t, ps, recs)
			for mask := range 1 << len(recs) {
				wantFold(t, "a part once more", whole, part(recs, uint64(mask)), whole, api.OK)
			}
		}
	}
}

// Parts of long lists once more, where all producers are there that may be.
func TestFoldOfPartsOfLongLists(t *testing.T) {
	for seed := range uint64(20) {
		recs := noisy(seed+1, 1500, 65)
		whole := fold(t, nil, recs)
		want(t, "how many", len(whole), 64)
		wantFold(t, "all once more", whole, recs, whole, api.OK)
		for at, x := range probe.Noise(seed+50, 20) {
			wantFold(t, "a piece once more", whole, recs[at*50:], whole, api.OK)
			wantFold(t, "a part once more", whole, part(recs[at*50:], x), whole, api.OK)
		}
	}
}

// part is the records that mask has a bit for, in their order.
func part(recs []api.Record, mask uint64) []api.Record {
	var list []api.Record
	for i, r := range recs {
		if mask>>(i%64)&1 == 1 {
			list = append(list, r)
		}
	}
	return list
}
