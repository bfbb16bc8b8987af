package quota_test

import (
	"math"
	"slices"
	"testing"

	"chronicle/api"
	"chronicle/probe"
	"chronicle/quota"
)

// slowSpread is what 13.5 says: who gets one more is found by counting those that go ahead of it.
func slowSpread(total int64, weights []int64) []int64 {
	all := sum(weights)
	shares := make([]int64, len(weights))
	rest := make([]int64, len(weights))
	for i, weight := range weights {
		shares[i], rest[i] = total*weight/all, total*weight%all
	}
	left := total - sum(shares)
	for i := range shares {
		ahead := int64(0)
		for j := range rest {
			if rest[j] > rest[i] || rest[j] == rest[i] && j < i {
				ahead++
			}
		}
		if ahead < left {
			shares[i]++
		}
	}
	return shares
}

// someWeights is lists of weights that may be: small ones and great ones, some of them alike.
func someWeights() [][]int64 {
	all := [][]int64{{1}, {maxPeriod}, {0, 1}, {maxPeriod, 0, 1}, {1, maxPeriod}, alike(64, maxPeriod), alike(64, 1), append(alike(63, 0), 1), append(alike(63, maxPeriod), 1)}
	for seed, n := range []int{1, 2, 3, 5, 8, 13, 33, 63, 64} {
		for _, greatest := range []uint64{1, 2, 10, 100, maxPeriod} {
			list := []int64{1}
			for _, x := range probe.Noise(uint64(seed)+greatest, n-1) {
				list = append(list, int64(x>>15%(greatest+1)))
			}
			all = append(all, list)
		}
	}
	return all
}

// 13.5

func TestSpreadOfTheExamples(t *testing.T) {
	for _, c := range []struct {
		total           int64
		weights, shares []int64
	}{
		{10, []int64{1, 1, 1}, []int64{4, 3, 3}},
		{10, []int64{0, 1, 2}, []int64{0, 3, 7}},
		{1, []int64{1, 2}, []int64{0, 1}},
	} {
		wantShared(t, "Spread", quota.Spread, c.total, c.weights, c.shares)
	}
	wantUnshared(t, "Spread", quota.Spread, 5, []int64{0, 0})
}

func TestSpreadAtTheEdges(t *testing.T) {
	for _, c := range []struct {
		total           int64
		weights, shares []int64
	}{
		{0, []int64{1}, []int64{0}},
		{1, []int64{1}, []int64{1}},
		{7, []int64{maxPeriod}, []int64{7}},
		{maxOffset, []int64{1}, []int64{maxOffset}},
		{maxOffset, []int64{maxPeriod}, []int64{maxOffset}},
		{maxOffset - 1, []int64{maxPeriod}, []int64{maxOffset - 1}},
		{0, alike(64, maxPeriod), alike(64, 0)},
		{maxOffset, alike(64, maxPeriod), alike(64, maxOffset/64)}, // nothing is left over
		{maxOffset - 1, alike(64, maxPeriod), append(alike(63, maxOffset/64), maxOffset/64-1)},
		{12, []int64{1, 2, 3}, []int64{2, 4, 6}},
		{13, []int64{1, 2, 3}, []int64{2, 4, 7}},      // remainders 1, 2 and 3 of 6
		{14, []int64{1, 2, 3}, []int64{2, 5, 7}},      // 2, 4 and 0
		{15, []int64{1, 2, 3}, []int64{3, 5, 7}},      // 3, 0 and 3: the first of two alike
		{15, []int64{3, 1, 2}, []int64{8, 2, 5}},      // the same in another order
		{5, []int64{2, 2, 2, 2}, []int64{2, 1, 1, 1}}, // remainders that are alike
		{6, []int64{2, 2, 2, 2}, []int64{2, 2, 1, 1}}, // the first ones of them
		{7, []int64{2, 2, 2, 2}, []int64{2, 2, 2, 1}}, // all but one
		{3, []int64{1, 0, 1, 0}, []int64{2, 0, 1, 0}}, // a weight of 0 gets none of what is left
		{1, []int64{0, 0, 5, 0}, []int64{0, 0, 1, 0}}, // all for one
		{2, []int64{1, 5, 1, 5}, []int64{0, 1, 0, 1}}, // all of it is left over
		{3, []int64{1, 5, 1, 5}, []int64{1, 1, 0, 1}}, // four remainders of 3
		{30, alike(64, 7), append(alike(30, 1), alike(34, 0)...)},
		{94, alike(64, 7), append(alike(30, 2), alike(34, 1)...)},
		{63, alike(64, 1), append(alike(63, 1), 0)},
		{65, alike(64, 1), append([]int64{2}, alike(63, 1)...)},
		{maxOffset, []int64{1, maxPeriod}, []int64{maxPeriod - 1, maxOffset - maxPeriod + 1}},
	} {
		wantShared(t, "Spread", quota.Spread, c.total, c.weights, c.shares)
	}
}

func TestSpreadsThatMayNotBe(t *testing.T) {
	for _, total := range numbers() {
		for _, weights := range [][]int64{{5}, {0, 1}, alike(64, 3)} {
			if total >= 0 && total <= maxOffset {
				wantShared(t, "Spread", quota.Spread, total, weights, slowSpread(total, weights))
				continue
			}
			wantUnshared(t, "Spread", quota.Spread, total, weights)
		}
	}
	for _, weight := range numbers() {
		for _, weights := range [][]int64{{weight, 1}, {weight, 3, 4}, {3, weight, 4}, {3, 4, weight}, append(alike(63, 1), weight)} {
			for _, total := range []int64{0, 5, maxOffset} {
				if weight >= 0 && weight <= maxPeriod {
					wantShared(t, "Spread", quota.Spread, total, weights, slowSpread(total, weights))
					continue
				}
				wantUnshared(t, "Spread", quota.Spread, total, weights)
			}
		}
	}
	for _, total := range []int64{0, 1, 5, maxOffset} {
		for _, weights := range [][]int64{nil, {}, {0}, {0, 0, 0}, alike(64, 0)} {
			wantUnshared(t, "Spread", quota.Spread, total, weights)
		}
		// Together they are 0, but none is from 0 on.
		wantUnshared(t, "Spread", quota.Spread, total, []int64{1, -1})
	}
	for _, n := range []int{65, 66, 128, 1000, 100000} {
		for _, weight := range []int64{0, 1, maxPeriod, math.MaxInt64} {
			wantUnshared(t, "Spread", quota.Spread, 5, alike(n, weight))
		}
	}
}

// All short lists of small weights, with every total.
func TestSpreadOfAllShortLists(t *testing.T) {
	lists(4, 5, func(weights []int64) {
		for total := range int64(24) {
			if sum(weights) == 0 {
				wantUnshared(t, "Spread", quota.Spread, total, weights)
				continue
			}
			wantShared(t, "Spread", quota.Spread, total, weights, slowSpread(total, weights))
		}
	})
}

func TestSpreadOfLongLists(t *testing.T) {
	for _, weights := range someWeights() {
		for _, total := range totals(weights) {
			wantShared(t, "Spread", quota.Spread, total, weights, slowSpread(total, weights))
		}
	}
}

// What follows of Spread.

// wantEven fails unless shares are what 'What follows' says of them.
func wantEven(t *testing.T, total int64, weights []int64) {
	t.Helper()
	shares, e := quota.Spread(total, weights)
	if e != api.OK || len(shares) != len(weights) || sum(shares) != total {
		t.Errorf("Spread(%d, %v) = %v, %d", total, weights, shares, e)
		return
	}
	all := sum(weights)
	for i, share := range shares {
		off := share*all - total*weights[i]
		if off <= -all || off >= all || weights[i] == 0 && share != 0 {
			t.Errorf("Spread(%d, %v) = %v: the place %d", total, weights, shares, i)
		}
		for j, other := range shares {
			if weights[i] > weights[j] && share < other || weights[i] == weights[j] && share > other+1 {
				t.Errorf("Spread(%d, %v) = %v: the places %d and %d", total, weights, shares, i, j)
			}
		}
	}
}

func TestSpreadIsEven(t *testing.T) {
	lists(5, 3, func(weights []int64) {
		for total := int64(0); total < 20 && sum(weights) > 0; total++ {
			wantEven(t, total, weights)
		}
	})
	for _, weights := range someWeights() {
		for _, total := range totals(weights) {
			wantEven(t, total, weights)
		}
	}
}

// Weights that are multiplied alike are the same weights.
func TestSpreadOfMultiples(t *testing.T) {
	for _, weights := range [][]int64{{1, 2, 3}, {5, 0, 5}, alike(64, 1), {7, 1, 7, 1}} {
		for total := range int64(40) {
			shares, _ := quota.Spread(total, weights)
			greater := slices.Clone(weights)
			for i := range greater {
				greater[i] *= 1000
			}
			wantShared(t, "Spread", quota.Spread, total, greater, shares)
		}
	}
}
