package quota_test

import (
	"math"
	"slices"
	"testing"

	"chronicle/api"
	"chronicle/probe"
	"chronicle/quota"
)

// given is what all asks get, if none gets more than level.
func given(asks []int64, level int64) int64 {
	all := int64(0)
	for _, ask := range asks {
		all += min(level, ask)
	}
	return all
}

// slowShares is what 13.4 says, with the level found by halving.
func slowShares(total int64, asks []int64) []int64 {
	shares := slices.Clone(asks)
	if sum(asks) <= total {
		return shares
	}
	level, above := int64(0), int64(maxOffset+1)
	for level+1 < above {
		if half := (level + above) / 2; given(asks, half) <= total {
			level = half
		} else {
			above = half
		}
	}
	left := total - given(asks, level)
	for i, ask := range asks {
		shares[i] = min(ask, level)
		if ask > level && left > 0 {
			shares[i]++
			left--
		}
	}
	return shares
}

// someAsks is lists of asks that may be: small ones and great ones, some of them alike.
func someAsks() [][]int64 {
	all := [][]int64{nil, {}, {0}, {1}, {maxOffset}, {maxOffset, 0, maxOffset}, alike(64, maxOffset), alike(64, 0), alike(63, 1), alike(64, 5)}
	for seed, n := range []int{1, 2, 3, 5, 8, 13, 33, 63, 64} {
		for _, greatest := range []uint64{2, 10, 100, 1 << 20, maxOffset} {
			var list []int64
			for _, x := range probe.Noise(uint64(seed)+greatest, n) {
				list = append(list, int64(x>>15%(greatest+1)))
			}
			all = append(all, list)
		}
	}
	return all
}

// totals is totals that make a difference to such asks, or weights.
func totals(list []int64) []int64 {
	all := []int64{0, 1, 2, 3, 7, 64, 65, 1000, maxOffset - 1, maxOffset}
	whole, n := sum(list), int64(len(list))
	for _, total := range []int64{whole / 3, whole / 2, whole - n, whole - n + 1, whole - 2, whole - 1, whole, whole + 1} {
		if total >= 0 && total <= maxOffset {
			all = append(all, total)
		}
	}
	return all
}

// 13.4

func TestSharesOfTheExamples(t *testing.T) {
	for _, c := range []struct {
		total        int64
		asks, shares []int64
	}{
		{10, []int64{2, 8, 8}, []int64{2, 4, 4}},
		{11, []int64{2, 8, 8}, []int64{2, 5, 4}},
		{20, []int64{2, 8, 8}, []int64{2, 8, 8}},
		{0, []int64{5}, []int64{0}},
		{5, nil, nil},
		{5, []int64{}, nil},
		{0, nil, nil},
		{maxOffset, nil, nil},
	} {
		wantShared(t, "Shares", quota.Shares, c.total, c.asks, c.shares)
	}
	wantUnshared(t, "Shares", quota.Shares, -1, []int64{2, 8, 8})
}

func TestSharesAtTheEdges(t *testing.T) {
	for _, c := range []struct {
		total        int64
		asks, shares []int64
	}{
		{0, []int64{0}, []int64{0}},
		{1, []int64{0}, []int64{0}},
		{1, []int64{1}, []int64{1}},
		{1, []int64{2}, []int64{1}},
		{0, []int64{3, 0, 7}, []int64{0, 0, 0}},
		{maxOffset, []int64{maxOffset}, []int64{maxOffset}},
		{maxOffset - 1, []int64{maxOffset}, []int64{maxOffset - 1}},
		{maxOffset, []int64{maxOffset, 0}, []int64{maxOffset, 0}},
		{maxOffset, []int64{0, maxOffset}, []int64{0, maxOffset}},
		{maxOffset, []int64{1, maxOffset}, []int64{1, maxOffset - 1}},
		{maxOffset, alike(2, maxOffset), alike(2, maxOffset/2)},
		{maxOffset, alike(64, maxOffset), alike(64, maxOffset/64)},
		{maxOffset - 1, alike(64, maxOffset), append(alike(63, maxOffset/64), maxOffset/64-1)},
		{17, []int64{3, 9, 5}, []int64{3, 9, 5}}, // just the total
		{18, []int64{3, 9, 5}, []int64{3, 9, 5}}, // one less
		{16, []int64{3, 9, 5}, []int64{3, 8, 5}}, // one more
		{13, []int64{3, 9, 5}, []int64{3, 5, 5}}, // an ask that is just the level
		{14, []int64{3, 9, 5}, []int64{3, 6, 5}},
		{12, []int64{9, 3, 5}, []int64{5, 3, 4}},
		{12, []int64{5, 3, 9}, []int64{5, 3, 4}},
		{14, []int64{4, 9, 4, 9}, []int64{4, 4, 3, 3}}, // something for two of four
		{15, []int64{4, 9, 3, 9}, []int64{4, 4, 3, 4}},
		{16, []int64{4, 9, 3, 9}, []int64{4, 5, 3, 4}}, // something for one of two
		{17, []int64{4, 9, 3, 9}, []int64{4, 5, 3, 5}},
		{18, []int64{9, 9, 2, 9, 9}, []int64{4, 4, 2, 4, 4}},
		{19, []int64{9, 9, 2, 9, 9}, []int64{5, 4, 2, 4, 4}},
		{21, []int64{9, 9, 2, 9, 9}, []int64{5, 5, 2, 5, 4}}, // for all but one
		{22, []int64{9, 9, 2, 9, 9}, []int64{5, 5, 2, 5, 5}},
		{21, []int64{9, 5, 2, 9, 9}, []int64{5, 5, 2, 5, 4}}, // an ask that is just met by what is left
		{23, []int64{9, 5, 2, 9, 9}, []int64{6, 5, 2, 5, 5}},
		{3, []int64{1, 1, 1, 1}, []int64{1, 1, 1, 0}},
		{63, alike(64, 1), append(alike(63, 1), 0)},
		{1, alike(64, maxOffset), append([]int64{1}, alike(63, 0)...)},
	} {
		wantShared(t, "Shares", quota.Shares, c.total, c.asks, c.shares)
	}
}

func TestSharesThatMayNotBe(t *testing.T) {
	for _, total := range numbers() {
		for _, asks := range [][]int64{nil, {5}, {0, 0}, alike(64, 3)} {
			if total >= 0 && total <= maxOffset {
				wantShared(t, "Shares", quota.Shares, total, asks, slowShares(total, asks))
				continue
			}
			wantUnshared(t, "Shares", quota.Shares, total, asks)
		}
	}
	for _, ask := range numbers() {
		for _, asks := range [][]int64{{ask}, {ask, 3, 4}, {3, ask, 4}, {3, 4, ask}, append(alike(63, 1), ask)} {
			for _, total := range []int64{0, 5, maxOffset} {
				if ask >= 0 && ask <= maxOffset {
					wantShared(t, "Shares", quota.Shares, total, asks, slowShares(total, asks))
					continue
				}
				wantUnshared(t, "Shares", quota.Shares, total, asks)
			}
		}
	}
	wantShared(t, "Shares", quota.Shares, 5, alike(maxShares, 0), alike(maxShares, 0))
	for _, n := range []int{65, 66, 128, 1000, 100000} {
		for _, ask := range []int64{0, 1, maxOffset, math.MaxInt64} {
			wantUnshared(t, "Shares", quota.Shares, 5, alike(n, ask))
		}
	}
}

// All short lists of small asks, with every total.
func TestSharesOfAllShortLists(t *testing.T) {
	lists(4, 6, func(asks []int64) {
		for total := range int64(26) {
			wantShared(t, "Shares", quota.Shares, total, asks, slowShares(total, asks))
		}
	})
}

func TestSharesOfLongLists(t *testing.T) {
	for _, asks := range someAsks() {
		for _, total := range totals(asks) {
			wantShared(t, "Shares", quota.Shares, total, asks, slowShares(total, asks))
		}
	}
}

// What follows: max-min fairness.

// wantFair fails unless shares are what 'What follows' says of them.
func wantFair(t *testing.T, total int64, asks []int64) {
	t.Helper()
	shares, e := quota.Shares(total, asks)
	right := e == api.OK && len(shares) == len(asks) && sum(shares) == min(total, sum(asks))
	for i, share := range shares {
		right = right && share >= 0 && share <= asks[i]
		if share < asks[i] {
			right = right && share >= slices.Max(shares)-1
		}
	}
	if !right {
		t.Errorf("Shares(%d, %v) = %v, %d", total, asks, shares, e)
	}
}

func TestSharesAreFair(t *testing.T) {
	lists(5, 4, func(asks []int64) {
		for total := range int64(22) {
			wantFair(t, total, asks)
		}
	})
	for _, asks := range someAsks() {
		for _, total := range totals(asks) {
			wantFair(t, total, asks)
		}
	}
}
