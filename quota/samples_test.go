package quota_test

import (
	"math"
	"math/big"
	"slices"
	"testing"

	"chronicle/api"
	"chronicle/quota"
)

// The greatest numbers that may be.
const (
	maxRate   = 1073741824
	maxPeriod = 1048576
	maxBurst  = 1073741824
	maxOffset = 1099511627776
	lastTime  = 1125899906842623
	maxShares = 64
)

// numbers is the edges of all ranges, and what lies beyond them.
func numbers() []int64 {
	list := []int64{math.MinInt64, math.MinInt64 + 1, -lastTime, -2, -1, 0, 1, 2, 3, 7, 10, math.MaxInt64 - 1, math.MaxInt64}
	for _, edge := range []int64{1 << 20, 1 << 30, 1 << 40, 1 << 50} {
		list = append(list, edge-2, edge-1, edge, edge+1, edge+2)
	}
	return list
}

// rightBuckets is buckets that may be: small ones and great ones, empty, in between and full, at all times.
func rightBuckets() []api.Bucket {
	var list []api.Bucket
	for _, num := range []int64{1, 2, 3, 7, maxPeriod - 1, maxRate - 1, maxRate} {
		for _, den := range []int64{1, 2, 3, 10, maxPeriod - 1, maxPeriod} {
			for _, burst := range []int64{1, 2, 10, maxBurst - 1, maxBurst} {
				for _, at := range []int64{0, 1, 5, lastTime - 1, lastTime} {
					b := api.Bucket{Num: num, Den: den, Burst: burst, At: at}
					list = append(list, b)
					b.Part = den - 1
					list = append(list, b)
					b.Level = burst - 1
					list = append(list, b)
					b.Part = den / 2
					b.Level = burst / 2
					if b.Level < burst {
						list = append(list, b)
					}
					b.Part, b.Level = 0, burst
					list = append(list, b)
				}
			}
		}
	}
	return list
}

// wrongBuckets is buckets that may not be, each for one reason.
func wrongBuckets() map[string]api.Bucket {
	list := map[string]api.Bucket{"a zero one": {}}
	right := api.Bucket{Num: 3, Den: 4, Burst: 10, Level: 6, Part: 2, At: 5}
	for what, change := range map[string]func(b *api.Bucket){
		"Num -1":             func(b *api.Bucket) { b.Num = -1 },
		"Num 0":              func(b *api.Bucket) { b.Num = 0 },
		"Num MaxRate + 1":    func(b *api.Bucket) { b.Num = maxRate + 1 },
		"Num far above":      func(b *api.Bucket) { b.Num = math.MaxInt64 },
		"Num far below":      func(b *api.Bucket) { b.Num = math.MinInt64 },
		"Den -1":             func(b *api.Bucket) { b.Den = -1 },
		"Den 0":              func(b *api.Bucket) { b.Den, b.Part = 0, 0 },
		"Den MaxPeriod + 1":  func(b *api.Bucket) { b.Den = maxPeriod + 1 },
		"Den far above":      func(b *api.Bucket) { b.Den = math.MaxInt64 },
		"Den far below":      func(b *api.Bucket) { b.Den = math.MinInt64 },
		"Burst -1":           func(b *api.Bucket) { b.Burst, b.Level, b.Part = -1, 0, 0 },
		"Burst 0":            func(b *api.Bucket) { b.Burst, b.Level, b.Part = 0, 0, 0 },
		"Burst MaxBurst + 1": func(b *api.Bucket) { b.Burst = maxBurst + 1 },
		"Burst far above":    func(b *api.Bucket) { b.Burst = math.MaxInt64 },
		"Level -1":           func(b *api.Bucket) { b.Level = -1 },
		"Level Burst + 1":    func(b *api.Bucket) { b.Level, b.Part = 11, 0 },
		"above, and a part":  func(b *api.Bucket) { b.Level = 11 },
		"Level far above":    func(b *api.Bucket) { b.Level = math.MaxInt64 },
		"Level far below":    func(b *api.Bucket) { b.Level = math.MinInt64 },
		"Part -1":            func(b *api.Bucket) { b.Part = -1 },
		"Part Den":           func(b *api.Bucket) { b.Part = 4 },
		"Part far above":     func(b *api.Bucket) { b.Part = math.MaxInt64 },
		"Part far below":     func(b *api.Bucket) { b.Part = math.MinInt64 },
		"full, and a part":   func(b *api.Bucket) { b.Level, b.Part = 10, 1 },
		"full, Part Den - 1": func(b *api.Bucket) { b.Level, b.Part = 10, 3 },
		"full, Part -1":      func(b *api.Bucket) { b.Level, b.Part = 10, -1 },
		"At -1":              func(b *api.Bucket) { b.At = -1 },
		"At MaxTime":         func(b *api.Bucket) { b.At = lastTime + 1 },
		"At far above":       func(b *api.Bucket) { b.At = math.MaxInt64 },
		"At far below":       func(b *api.Bucket) { b.At = math.MinInt64 },
	} {
		b := right
		change(&b)
		list[what] = b
	}
	return list
}

// times is ticks around a bucket's, around that at which it is full, and at all edges.
func times(b api.Bucket) []int64 {
	list := numbers()
	full := ((b.Burst-b.Level)*b.Den - b.Part) / b.Num
	for _, ticks := range []int64{-5, -1, 0, 1, 2, full - 1, full, full + 1, full + 2} {
		list = append(list, b.At+ticks)
	}
	return list
}

// counts is numbers of tokens around those that a bucket has and may have, and at all edges.
func counts(b api.Bucket) []int64 {
	return append(numbers(), b.Level-1, b.Level, b.Level+1, b.Level+2, b.Burst-1, b.Burst, b.Burst+1)
}

// partsAt is all the parts that a bucket would have some ticks behind its At, were none lost.
func partsAt(b api.Bucket, ticks *big.Int) *big.Int {
	p := new(big.Int).Mul(big.NewInt(b.Num), ticks)
	p.Add(p, new(big.Int).Mul(big.NewInt(b.Level), big.NewInt(b.Den)))
	return p.Add(p, big.NewInt(b.Part))
}

// slowFill is what 13.2 says of a bucket that may be, in numbers of any length.
func slowFill(b api.Bucket, now int64) api.Bucket {
	if now <= b.At {
		return b
	}
	now = min(now, lastTime)
	p := partsAt(b, big.NewInt(now-b.At))
	b.At = now
	level, part := new(big.Int).QuoRem(p, big.NewInt(b.Den), new(big.Int))
	b.Level, b.Part = level.Int64(), part.Int64()
	if level.Cmp(big.NewInt(b.Burst)) >= 0 {
		b.Level, b.Part = b.Burst, 0
	}
	return b
}

// isReached tells whether a bucket would have n tokens some ticks behind its At, whether or not that is a time.
func isReached(b api.Bucket, ticks, n int64) bool {
	tokens := new(big.Int).Quo(partsAt(b, big.NewInt(ticks)), big.NewInt(b.Den))
	return tokens.Cmp(big.NewInt(n)) >= 0 && n <= b.Burst
}

// bucket makes a full one, and fails the test if it can't.
func bucket(t *testing.T, num, den, burst, now int64) api.Bucket {
	t.Helper()
	b, e := quota.New(num, den, burst, now)
	if e != api.OK {
		t.Fatalf("New(%d, %d, %d, %d): %d", num, den, burst, now, e)
	}
	return b
}

func want[T comparable](t *testing.T, what string, got, want T) {
	t.Helper()
	if got != want {
		t.Errorf("%s = %v, want %v", what, got, want)
	}
}

// wantTaken fails unless a bucket is taken from as it should be.
func wantTaken(t *testing.T, b api.Bucket, now, n int64, after api.Bucket, wait int64) {
	t.Helper()
	if got, w := quota.Take(b, now, n); got != after || w != wait {
		t.Errorf("Take(%v, %d, %d) = %v, %d, want %v, %d", b, now, n, got, w, after, wait)
	}
}

// sharing is Shares or Spread.
type sharing func(total int64, list []int64) ([]int64, api.Errno)

// wantShared fails unless these are the shares.
func wantShared(t *testing.T, what string, share sharing, total int64, list, shares []int64) {
	t.Helper()
	if got, e := share(total, list); e != api.OK || !slices.Equal(got, shares) {
		t.Errorf("%s(%d, %v) = %v, %d, want %v", what, total, list, got, e, shares)
	}
}

// wantUnshared fails unless there are no such shares.
func wantUnshared(t *testing.T, what string, share sharing, total int64, list []int64) {
	t.Helper()
	if got, e := share(total, list); e != api.ErrShares || len(got) != 0 {
		t.Errorf("%s(%d, %v) = %v, %d, want none, %d", what, total, list, got, e, api.ErrShares)
	}
}

// alike is n numbers that are the same.
func alike(n int, x int64) []int64 { return slices.Repeat([]int64{x}, n) }

// lists calls do with all lists of up to n numbers from 0 to greatest. They are of one memory.
func lists(n int, greatest int64, do func(list []int64)) {
	list := make([]int64, 0, n)
	var next func()
	next = func() {
		do(list)
		if len(list) == n {
			return
		}
		for x := range greatest + 1 {
			list = append(list, x)
			next()
			list = list[:len(list)-1]
		}
	}
	next()
}

func sum(list []int64) int64 {
	all := int64(0)
	for _, x := range list {
		all += x
	}
	return all
}
