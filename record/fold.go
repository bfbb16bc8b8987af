package record

import (
	"slices"

	"chronicle/api"
	"chronicle/octet"
)

// Fold tells the last record of each key, if it is a value, by rising keys.
func Fold(l []api.Record) []api.Record {
	last := lastOfKeys(l)
	var live []api.Record
	for i, r := range l {
		if last[r.Key] == i && r.Kind == api.KValue {
			live = append(live, r)
		}
	}
	slices.SortFunc(live, func(a, b api.Record) int { return octet.Compare(a.Key, b.Key) })
	return live
}

// lastOfKeys tells for each key where its last record stands in the list.
func lastOfKeys(l []api.Record) map[string]int {
	last := map[string]int{}
	for i, r := range l {
		last[r.Key] = i
	}
	return last
}

// Compact tells what a merge of a whole log keeps, and the mark.
func Compact(l []api.Record, now, horizon int64) ([]api.Record, int64) {
	if now < 0 || horizon < 0 || !allRight(l) {
		return nil, 0
	}
	horizon = min(horizon, api.MaxHorizon)
	last := lastOfKeys(l)
	var kept []api.Record
	mark := int64(0)
	for i, r := range l {
		switch {
		case last[r.Key] != i: // superseded
		case r.Kind == api.KValue || now < r.Time+horizon:
			kept = append(kept, r)
		default:
			mark = max(mark, r.Offset+1)
		}
	}
	return kept, mark
}

// allRight tells whether all of these records may be.
func allRight(l []api.Record) bool {
	return !slices.ContainsFunc(l, func(r api.Record) bool { return Check(r) != api.OK })
}
