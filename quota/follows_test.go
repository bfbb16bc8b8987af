package quota_test

import (
	"testing"

	"chronicle/api"
	"chronicle/probe"
	"chronicle/quota"
)

// smallBuckets is all buckets of small numbers, at the tick at.
func smallBuckets(at int64) []api.Bucket {
	var list []api.Bucket
	for num := range int64(5) {
		for den := range int64(5) {
			for burst := range int64(4) {
				for level := range burst + 1 {
					for part := range den {
						b := api.Bucket{Num: num, Den: den, Burst: burst, Level: level, Part: part, At: at}
						if mayBe(b) {
							list = append(list, b)
						}
					}
				}
			}
		}
	}
	return list
}

// taken is how many tokens were taken at a tick.
type taken struct{ at, tokens int64 }

// wantBound fails if more was taken in any stretch of time than the bucket's bound.
func wantBound(t *testing.T, b api.Bucket, row []taken) {
	t.Helper()
	for i := range row {
		all := int64(0)
		for _, x := range row[i:] {
			all += x.tokens
			if all*b.Den > b.Burst*b.Den+b.Num*(x.at-row[i].at) {
				t.Errorf("%v: from the tick %d to %d it gave %d tokens", b, row[i].at, x.at, all)
			}
		}
	}
}

// The bucket's bound, of all short rows of takes: what is asked for, and how long behind the one ahead.
func TestBoundOfAllShortRows(t *testing.T) {
	var row []taken
	var next func(first, b api.Bucket, now int64)
	next = func(first, b api.Bucket, now int64) {
		wantBound(t, first, row)
		if len(row) == 3 {
			return
		}
		for ticks := range int64(3) {
			for n := range first.Burst + 2 {
				after, wait := quota.Take(b, now+ticks, n)
				if wait != 0 {
					continue
				}
				row = append(row, taken{now + ticks, n})
				next(first, after, now+ticks)
				row = row[:len(row)-1]
			}
		}
	}
	for _, b := range smallBuckets(10) {
		next(b, b, 10)
	}
}

// The bucket's bound, of long rows in which all that is there is taken, as soon as it is.
func TestBoundOfLongRows(t *testing.T) {
	for seed := range uint64(40) {
		b := bucket(t, int64(seed%7+1), int64(seed%11+1), int64(seed%5+1), 3)
		first, now, got := b, int64(3), int64(0)
		var row []taken
		for _, x := range probe.Noise(seed+1, 300) {
			n := int64(x>>20%uint64(b.Burst)) + 1
			after, wait := quota.Take(b, now, n)
			b = after
			if wait != 0 {
				now += int64(x>>40%uint64(wait)) + 1
				continue
			}
			row = append(row, taken{now, n})
			got += n
		}
		wantBound(t, first, row)
		// The bound says nothing of a bucket that gives nothing.
		if len(row) < 20 || got == 0 {
			t.Errorf("%v: it gave %d tokens in %d takes", first, got, len(row))
		}
	}
}

// What is always waited for just so long is never lost: each part that came is there, or was taken.
func TestNothingIsLostOfWhatIsWaitedFor(t *testing.T) {
	for _, first := range []api.Bucket{{Num: 3, Den: 7, Burst: 4}, {Num: 7, Den: 3, Burst: 9, Part: 2}, {Num: 1, Den: maxPeriod, Burst: 2}, {Num: 1000, Den: 999, Burst: 50, Level: 3}} {
		b, now, got := first, int64(0), int64(0)
		for range 500 {
			n := first.Burst / 2
			after, wait := quota.Take(b, now, n)
			b = after
			if wait == 0 {
				got += n
			}
			now += wait
		}
		b = quota.Fill(b, now)
		came := first.Level*first.Den + first.Part + first.Num*now
		want(t, "the parts that were taken and are there", (got+b.Level)*b.Den+b.Part, came)
	}
}

// Fill in steps is Fill at once.
func TestFillInSteps(t *testing.T) {
	for _, at := range []int64{2, lastTime - 4} {
		for _, b := range smallBuckets(at) {
			for last := at - 2; last < at+9; last++ {
				once := quota.Fill(b, last)
				for step := at - 2; step <= last; step++ {
					want(t, "Fill in two steps", quota.Fill(quota.Fill(b, step), last), once)
				}
				steps := b
				for step := at; step <= last; step++ {
					steps = quota.Fill(steps, step)
				}
				want(t, "Fill tick by tick", steps, quota.Fill(b, last))
			}
		}
	}
}

func TestFillOfAllBucketsInSteps(t *testing.T) {
	for _, b := range rightBuckets() {
		all := times(b)
		for _, last := range all {
			once := quota.Fill(b, last)
			for _, step := range all {
				if step <= last && quota.Fill(quota.Fill(b, step), last) != once {
					t.Fatalf("Fill(%v, %d) is another one by the tick %d", b, last, step)
				}
			}
		}
	}
}

// Waits are exact: at each tick ahead of the last it is refused still, with what is left of the wait.
func TestWaitsAreExact(t *testing.T) {
	for _, b := range append(smallBuckets(2), smallBuckets(lastTime-4)...) {
		for n := range b.Burst + 1 {
			_, wait := quota.Take(b, b.At, n)
			for ticks := range wait + 1 {
				if b.At+ticks > lastTime {
					break
				}
				after, left := quota.Take(b, b.At+ticks, n)
				filled := quota.Fill(b, b.At+ticks)
				if ticks == wait {
					filled.Level -= n
				}
				if left != wait-ticks || after != filled {
					t.Fatalf("Take(%v, %d, %d) = %v, %d; the wait was %d", b, b.At+ticks, n, after, left, wait)
				}
			}
		}
	}
}

func TestLongWaitsAreExact(t *testing.T) {
	for _, b := range rightBuckets() {
		for _, n := range counts(b) {
			c, wait := quota.Take(b, b.At, n)
			if wait < 1 {
				continue
			}
			for _, ticks := range []int64{0, 1, wait / 3, wait / 2, wait - 2, wait - 1, wait} {
				if ticks < 0 || b.At+ticks > lastTime {
					continue
				}
				if _, left := quota.Take(c, b.At+ticks, n); left != wait-ticks {
					t.Fatalf("Take(%v, %d, %d) has to wait %d; the wait was %d, %d ticks ahead", c, b.At+ticks, n, left, wait, ticks)
				}
			}
		}
	}
}

// What is refused takes nothing: it may be tried as often as one likes.
func TestRefusalsTakeNothing(t *testing.T) {
	for _, b := range append(smallBuckets(2), rightBuckets()...) {
		for _, now := range []int64{0, 2, 3, 5, lastTime} {
			filled, tried := quota.Fill(b, now), b
			for _, n := range []int64{-1, b.Burst + 1, b.Burst, filled.Level + 1, -1 << 63, 1<<63 - 1} {
				after, wait := quota.Take(tried, now, n)
				if wait == 0 {
					continue
				}
				if after != filled {
					t.Fatalf("Take(%v, %d, %d) = %v, %d, want %v", tried, now, n, after, wait, filled)
				}
				tried = after
			}
		}
	}
}
