package quota

import (
	"cmp"
	"slices"

	"chronicle/api"
)

// Shares shares so that no share can grow but at a lesser one's cost.
func Shares(total int64, asks []int64) ([]int64, api.Errno) {
	if !mayShare(total, asks, api.MaxOffset) {
		return nil, api.ErrShares
	}
	level := levelOf(total, asks)
	shares := make([]int64, len(asks))
	left := total
	for i, ask := range asks {
		shares[i] = min(ask, level)
		left -= shares[i]
	}
	for i, ask := range asks {
		if ask > level && left > 0 {
			shares[i]++
			left--
		}
	}
	return shares, api.OK
}

// mayShare tells whether there is such a total, and such a list of numbers from 0 to greatest.
func mayShare(total int64, list []int64, greatest int64) bool {
	if len(list) > api.MaxShares || !isWithin(total, 0, api.MaxOffset) {
		return false
	}
	return !slices.ContainsFunc(list, func(x int64) bool { return !isWithin(x, 0, greatest) })
}

// levelOf tells up to which number each ask can be met; total, which none of them is above, if all can be met whole.
func levelOf(total int64, asks []int64) int64 {
	left := total
	for i, ask := range slices.Sorted(slices.Values(asks)) {
		// If this one and those behind it can't all be given what this one asks for, the level is below them all.
		equals := int64(len(asks) - i)
		if ask*equals > left {
			return left / equals
		}
		left -= ask
	}
	return total
}

// Spread shares by weights.
func Spread(total int64, weights []int64) ([]int64, api.Errno) {
	if !mayShare(total, weights, api.MaxPeriod) {
		return nil, api.ErrShares
	}
	all := sum(weights)
	if all == 0 {
		return nil, api.ErrShares
	}
	shares := make([]int64, len(weights))
	remainders := make([]int64, len(weights))
	for i, weight := range weights {
		shares[i] = total * weight / all
		remainders[i] = total * weight % all
	}
	left := total - sum(shares)
	for _, place := range byRemainder(remainders)[:left] {
		shares[place]++
	}
	return shares, api.OK
}

func sum(list []int64) int64 {
	all := int64(0)
	for _, x := range list {
		all += x
	}
	return all
}

// byRemainder tells the places of the remainders, the greatest one's first. The sort is stable, for of equal ones the first goes first.
func byRemainder(remainders []int64) []int {
	places := make([]int, len(remainders))
	for i := range places {
		places[i] = i
	}
	slices.SortStableFunc(places, func(a, b int) int { return cmp.Compare(remainders[b], remainders[a]) })
	return places
}
