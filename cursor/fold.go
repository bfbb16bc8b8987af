package cursor

import (
	"maps"
	"slices"

	"chronicle/api"
)

// Fold tells what a reader makes of deliveries.
func Fold(start []api.Pair, recs []api.Record) []api.Pair {
	pairs := map[string]api.Pair{}
	for _, p := range start {
		pairs[p.Key] = p
	}
	for _, r := range recs {
		if r.Kind == api.KTombstone {
			delete(pairs, r.Key)
			continue
		}
		pairs[r.Key] = api.Pair{Key: r.Key, Value: r.Value, Off: r.Offset, Time: r.Time}
	}
	list := make([]api.Pair, 0, len(pairs))
	for _, key := range slices.Sorted(maps.Keys(pairs)) {
		list = append(list, pairs[key])
	}
	return list
}
