package quota_test

import (
	"testing"

	"chronicle/api"
	"chronicle/quota"
)

// 13.1

func TestCheckOfRightBuckets(t *testing.T) {
	for _, b := range rightBuckets() {
		if e := quota.Check(b); e != api.OK {
			t.Errorf("Check(%v) = %d", b, e)
		}
	}
}

func TestCheckOfWrongBuckets(t *testing.T) {
	for what, b := range wrongBuckets() {
		want(t, what+": Check", quota.Check(b), api.ErrRate)
	}
}

// Each number at its edges, with the others at theirs.
func TestCheckAtTheEdges(t *testing.T) {
	edges := func(last int64) []int64 { return []int64{-1, 0, 1, last - 1, last, last + 1} }
	for _, num := range edges(maxRate) {
		for _, den := range edges(maxPeriod) {
			for _, burst := range edges(maxBurst) {
				for _, level := range append(edges(burst), 10) {
					for _, part := range append(edges(den-1), 5) {
						for _, at := range edges(lastTime) {
							b := api.Bucket{Num: num, Den: den, Burst: burst, Level: level, Part: part, At: at}
							if (quota.Check(b) == api.OK) != mayBe(b) {
								t.Fatalf("Check(%v) = %d", b, quota.Check(b))
							}
						}
					}
				}
			}
		}
	}
}

// mayBe is what 13.1 says, range by range.
func mayBe(b api.Bucket) bool {
	switch {
	case b.Num < 1 || b.Num > maxRate:
	case b.Den < 1 || b.Den > maxPeriod:
	case b.Burst < 1 || b.Burst > maxBurst:
	case b.Level < 0 || b.Level > b.Burst:
	case b.Part < 0 || b.Part > b.Den-1:
	case b.Level == b.Burst && b.Part != 0:
	case b.At < 0 || b.At > lastTime:
	default:
		return true
	}
	return false
}

func TestNewOfTheExample(t *testing.T) {
	want(t, "New(3, 2, 10, 5)", bucket(t, 3, 2, 10, 5), api.Bucket{Num: 3, Den: 2, Burst: 10, Level: 10, Part: 0, At: 5})
}

func TestNewAtTheEdges(t *testing.T) {
	for _, num := range numbers() {
		for _, den := range numbers() {
			for _, burst := range numbers() {
				for _, now := range []int64{-1 << 63, -1, 0, 5, lastTime, lastTime + 1, 1<<63 - 1} {
					full := api.Bucket{Num: num, Den: den, Burst: burst, Level: burst, At: now}
					errno := api.OK
					if !mayBe(full) {
						full, errno = api.Bucket{}, api.ErrRate
					}
					if b, e := quota.New(num, den, burst, now); b != full || e != errno {
						t.Fatalf("New(%d, %d, %d, %d) = %v, %d, want %v, %d", num, den, burst, now, b, e, full, errno)
					}
				}
			}
		}
	}
}

// 13.2

func TestFillOfTheExample(t *testing.T) {
	b := api.Bucket{Num: 3, Den: 2, Burst: 10, Level: 2, Part: 0, At: 5}
	for _, c := range []struct{ now, level, part, at int64 }{
		{-1, 2, 0, 5},
		{0, 2, 0, 5},
		{4, 2, 0, 5},
		{5, 2, 0, 5},
		{6, 3, 1, 6},
		{7, 5, 0, 7},
		{8, 6, 1, 8},
		{9, 8, 0, 9},
		{10, 9, 1, 10},
		{11, 10, 0, 11}, // one part and two more are lost
		{12, 10, 0, 12},
		{1 << 49, 10, 0, 1 << 49},
		{lastTime, 10, 0, lastTime},
		{lastTime + 1, 10, 0, lastTime},
		{1<<63 - 1, 10, 0, lastTime},
	} {
		want(t, "Fill", quota.Fill(b, c.now), api.Bucket{Num: 3, Den: 2, Burst: 10, Level: c.level, Part: c.part, At: c.at})
	}
}

// The parts just reach the full bucket, are one less, and one more.
func TestFillThatJustReaches(t *testing.T) {
	for _, c := range []struct{ b, after api.Bucket }{
		{api.Bucket{Num: 5, Den: 7, Burst: 4, Level: 2, Part: 4}, api.Bucket{Num: 5, Den: 7, Burst: 4, Level: 4, At: 2}},
		{api.Bucket{Num: 5, Den: 7, Burst: 4, Level: 2, Part: 3}, api.Bucket{Num: 5, Den: 7, Burst: 4, Level: 3, Part: 6, At: 2}},
		{api.Bucket{Num: 5, Den: 7, Burst: 4, Level: 2, Part: 5}, api.Bucket{Num: 5, Den: 7, Burst: 4, Level: 4, At: 2}},
		{api.Bucket{Num: 1, Den: maxPeriod, Burst: 1, Part: maxPeriod - 2}, api.Bucket{Num: 1, Den: maxPeriod, Burst: 1, Level: 1, At: 2}},
		{api.Bucket{Num: 1, Den: maxPeriod, Burst: 1, Part: maxPeriod - 3}, api.Bucket{Num: 1, Den: maxPeriod, Burst: 1, Part: maxPeriod - 1, At: 2}},
		{api.Bucket{Num: 1, Den: maxPeriod, Burst: 1, Part: maxPeriod - 1}, api.Bucket{Num: 1, Den: maxPeriod, Burst: 1, Level: 1, At: 2}},
		{api.Bucket{Num: maxRate, Den: 1, Burst: maxBurst}, api.Bucket{Num: maxRate, Den: 1, Burst: maxBurst, Level: maxBurst, At: 2}},
	} {
		want(t, "Fill at 2", quota.Fill(c.b, 2), c.after)
	}
	great := api.Bucket{Num: maxRate, Den: maxPeriod, Burst: maxBurst}
	full, short := great, great
	full.Level, full.At = maxBurst, maxPeriod
	short.Level, short.At = maxBurst-1024, maxPeriod-1
	want(t, "Fill of a great one", quota.Fill(great, maxPeriod), full)
	want(t, "Fill of a great one, a tick earlier", quota.Fill(great, maxPeriod-1), short)
}

// The parts that come are beyond 64 bits; with some ticks what is left of them in 64 bits is 0, or small, or below 0.
func TestFillBeyond64Bits(t *testing.T) {
	for _, num := range []int64{maxRate, maxRate - 1, 1<<29 + 1, 1 << 20} {
		b := api.Bucket{Num: num, Den: maxPeriod, Burst: maxBurst, Level: 3, Part: 1}
		for _, ticks := range []int64{1 << 33, 1<<33 + 1, 1 << 34, 1<<34 + 1, 1 << 35, 1<<35 + 1, 1 << 44, 1<<44 + 1, 1 << 49, lastTime - 1, lastTime} {
			want(t, "Fill", quota.Fill(b, ticks), slowFill(b, ticks))
		}
	}
	b := api.Bucket{Num: maxRate, Den: 1, Burst: 5}
	want(t, "Fill", quota.Fill(b, 1<<34), api.Bucket{Num: maxRate, Den: 1, Burst: 5, Level: 5, At: 1 << 34})
	want(t, "Fill", quota.Fill(b, lastTime), api.Bucket{Num: maxRate, Den: 1, Burst: 5, Level: 5, At: lastTime})
}

func TestFillOfAllBuckets(t *testing.T) {
	for _, b := range rightBuckets() {
		for _, now := range times(b) {
			if got, slow := quota.Fill(b, now), slowFill(b, now); got != slow {
				t.Fatalf("Fill(%v, %d) = %v, want %v", b, now, got, slow)
			}
		}
	}
}

func TestFillOfWrongBuckets(t *testing.T) {
	for what, b := range wrongBuckets() {
		for _, now := range numbers() {
			want(t, what+": Fill", quota.Fill(b, now), b)
		}
	}
}
