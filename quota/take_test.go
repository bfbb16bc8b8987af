package quota_test

import (
	"math"
	"testing"

	"chronicle/api"
	"chronicle/quota"
)

// 13.3

func TestTakeOfTheExample(t *testing.T) {
	at := func(level, part, at int64) api.Bucket {
		return api.Bucket{Num: 3, Den: 2, Burst: 10, Level: level, Part: part, At: at}
	}
	b := bucket(t, 3, 2, 10, 5)
	wantTaken(t, b, 5, 8, at(2, 0, 5), 0)
	wantTaken(t, at(2, 0, 5), 6, 4, at(3, 1, 6), 1)
	wantTaken(t, at(3, 1, 6), 7, 4, at(1, 0, 7), 0)
	wantTaken(t, at(3, 1, 6), 7, 11, at(5, 0, 7), -1)
}

// Each number of tokens that makes a difference, of a bucket that fills by 4 tokens and a part.
func TestTakeAtTheEdges(t *testing.T) {
	b := api.Bucket{Num: 9, Den: 8, Burst: 10, Level: 2, Part: 1, At: 5}
	filled := func(less int64) api.Bucket {
		return api.Bucket{Num: 9, Den: 8, Burst: 10, Level: 6 - less, Part: 5, At: 9}
	}
	for _, c := range []struct{ n, less, wait int64 }{
		{math.MinInt64, 0, -1},
		{math.MinInt64 + 1, 0, -1},
		{-1, 0, -1},
		{0, 0, 0},
		{1, 1, 0},
		{5, 5, 0},
		{6, 6, 0},
		{7, 0, 1}, // 3 parts
		{8, 0, 2}, // 11 parts
		{10, 0, 3},
		{11, 0, -1},
		{maxBurst, 0, -1},
		{math.MaxInt64, 0, -1},
	} {
		wantTaken(t, b, 9, c.n, filled(c.less), c.wait)
	}
	// At a tick that is not above its own it is as it stands there.
	for _, now := range []int64{math.MinInt64, -1, 0, 4, 5} {
		wantTaken(t, b, now, 2, api.Bucket{Num: 9, Den: 8, Burst: 10, Level: 0, Part: 1, At: 5}, 0)
		wantTaken(t, b, now, 3, b, 1)
		wantTaken(t, b, now, 10, b, 7)
		wantTaken(t, b, now, 11, b, -1)
	}
}

// The parts of a wait just suffice; with one part less there it is a tick more.
func TestWaitsThatJustSuffice(t *testing.T) {
	b := api.Bucket{Num: 5, Den: 7, Burst: 9, Level: 1, Part: 4, At: 100}
	wantTaken(t, b, 100, 3, b, 2) // 10 parts, 5 each tick
	b.Part = 3
	wantTaken(t, b, 100, 3, b, 3)
	b.Part = 5
	wantTaken(t, b, 100, 3, b, 2)
	b.Part = 6
	wantTaken(t, b, 100, 3, b, 2)
	wantTaken(t, b, 100, 2, b, 1)
	one := api.Bucket{Num: 1, Den: maxPeriod, Burst: maxBurst, At: 7}
	wantTaken(t, one, 7, 1, one, maxPeriod)
	wantTaken(t, one, 7, maxBurst, one, 1<<50)
	one.Part = maxPeriod - 1
	wantTaken(t, one, 7, 1, one, 1)
	wantTaken(t, one, 7, maxBurst, one, 1<<50-maxPeriod+1)
	fast := api.Bucket{Num: maxRate, Den: 1, Burst: maxBurst, At: 7}
	wantTaken(t, fast, 7, maxBurst, fast, 1)
	fast.Num--
	wantTaken(t, fast, 7, maxBurst, fast, 2)
}

// A wait that ends behind the last time is told all the same.
func TestWaitsBehindTheLastTime(t *testing.T) {
	b := api.Bucket{Num: 1, Den: 10, Burst: 3, Part: 2, At: lastTime - 7}
	wantTaken(t, b, lastTime-7, 1, b, 8)
	b.Part = 3
	wantTaken(t, b, lastTime-7, 1, b, 7)
	wantTaken(t, b, lastTime-7, 2, b, 17)
	last := api.Bucket{Num: 1, Den: 10, Burst: 3, Part: 9, At: lastTime}
	for _, now := range []int64{lastTime - 1, lastTime, lastTime + 1, math.MaxInt64} {
		if now >= lastTime {
			wantTaken(t, api.Bucket{Num: 1, Den: 10, Burst: 3, Part: 2, At: lastTime - 7}, now, 1, last, 1)
			wantTaken(t, api.Bucket{Num: 1, Den: 10, Burst: 3, Part: 2, At: lastTime - 7}, now, 3, last, 21)
		}
		wantTaken(t, last, now, 1, last, 1)
		wantTaken(t, last, now, 3, last, 21)
		wantTaken(t, last, now, 0, last, 0)
	}
}

// What is taken leaves the parts as they are.
func TestTakeLeavesTheParts(t *testing.T) {
	for _, b := range rightBuckets() {
		for _, n := range []int64{0, b.Level} {
			after := b
			after.Level -= n
			wantTaken(t, b, b.At, n, after, 0)
		}
	}
}

func TestTakeOfAllBuckets(t *testing.T) {
	for _, b := range rightBuckets() {
		for _, now := range times(b) {
			filled := slowFill(b, now)
			for _, n := range counts(filled) {
				wantTakenRightly(t, b, filled, now, n)
			}
		}
		if t.Failed() {
			return
		}
	}
}

// wantTakenRightly fails unless a take is what 13.3 says: of the bucket as it is filled.
func wantTakenRightly(t *testing.T, b, filled api.Bucket, now, n int64) {
	t.Helper()
	after, wait := quota.Take(b, now, n)
	less := filled
	less.Level -= n
	right := false
	switch {
	case n < 0 || n > b.Burst:
		right = wait == -1 && after == filled
	case n <= filled.Level:
		right = wait == 0 && after == less
	default:
		right = wait > 0 && after == filled && isReached(filled, wait, n) && !isReached(filled, wait-1, n)
	}
	if !right {
		t.Errorf("Take(%v, %d, %d) = %v, %d; it is filled to %v", b, now, n, after, wait, filled)
	}
}

func TestTakeOfWrongBuckets(t *testing.T) {
	for _, b := range wrongBuckets() {
		for _, now := range numbers() {
			for _, n := range counts(b) {
				wantTaken(t, b, now, n, b, -1)
			}
		}
	}
}
