package merge

import (
	"math"

	"chronicle/api"
)

// Due tells whether so great a share (percent) of the bytes is dead.
func Due(ss []api.SegStat, share int) bool {
	all, live := 0, 0
	for _, s := range ss {
		all = sum(all, s.Bytes)
		live = sum(live, s.LiveBytes)
	}
	share = min(max(share, 0), 100)
	return all > 0 && live <= all && times(all-live, 100) >= times(all, share)
}

// sum adds what is above 0, and stays at the greatest number.
func sum(n, more int) int { return n + min(max(more, 0), math.MaxInt-n) }

// times multiplies numbers that are not below 0, and stays at the greatest one.
func times(n, by int) int {
	if by > 0 && n > math.MaxInt/by {
		return math.MaxInt
	}
	return n * by
}

// Steps tells how many steps a merge takes at most.
func Steps(segs, recs int) int {
	const ends = 4 // two syncs of the directory, the moment of the merge, the end
	if segs < 0 || recs < 0 || segs > (math.MaxInt-ends)/4 || recs > math.MaxInt-ends-4*segs {
		return 0
	}
	return recs + 4*segs + ends
}

// Compact tells which records stay, and the mark.
func Compact(sealed, later []api.Record, now, horizon int64) ([]api.Record, int64, api.Errno) {
	if !rise(sealed, later) {
		return nil, 0, api.ErrOrder
	}
	if now < 0 || horizon < 0 {
		return nil, 0, api.ErrArg
	}
	old := now - min(horizon, api.MaxHorizon) // a tombstone is, that is not younger
	last := lastOffsets(sealed, later)
	var kept []api.Record
	mark := int64(0)
	for _, r := range sealed {
		switch {
		case last[r.Key] != r.Offset: // superseded
		case r.Kind != api.KTombstone || r.Time > old:
			kept = append(kept, r)
		default:
			mark = r.Offset + 1 // offsets rise
		}
	}
	return kept, mark, api.OK
}

// rise tells whether these are offsets that may be and that rise, from list to list too.
func rise(lists ...[]api.Record) bool {
	ahead := int64(-1)
	for _, l := range lists {
		for _, r := range l {
			if r.Offset <= ahead || r.Offset >= api.MaxOffset {
				return false
			}
			ahead = r.Offset
		}
	}
	return true
}

// lastOffsets tells the offset of each key's last record.
func lastOffsets(lists ...[]api.Record) map[string]int64 {
	last := map[string]int64{}
	for _, l := range lists {
		for _, r := range l {
			last[r.Key] = r.Offset
		}
	}
	return last
}
