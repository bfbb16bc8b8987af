package stream_test

import (
	"fmt"
	"testing"

	"chronicle/api"
	"chronicle/stream"
)

func wantSplitAs(t *testing.T, what string, b []byte, limit, left int, list ...api.Framed) {
	t.Helper()
	got, n := stream.Split(b, limit)
	if !same(got, list) || n != left {
		t.Errorf("%s: %s, %d, want %s, %d", what, brief(got), n, brief(list), left)
	}
}

// 17.5
func TestSplit(t *testing.T) {
	hi := frame("hi")
	wantSplitAs(t, "nil", nil, 64, 0)
	wantSplitAs(t, "none", []byte{}, 64, 0)
	wantSplitAs(t, "a frame", hi, 64, 0, told("hi", 0))
	wantSplitAs(t, "frames", join(hi, frame("ho"), hi), 64, 0, told("hi", 0), told("ho", 11), told("hi", 22))
	wantSplitAs(t, "frames and three bytes", join(hi, hi, hi[:3]), 64, 3, told("hi", 0), told("hi", 11))
	for cut := range hi {
		wantSplitAs(t, fmt.Sprint("a part of ", cut), hi[:cut], 64, cut)
		wantSplitAs(t, fmt.Sprint("a frame and a part of ", cut), join(hi, hi[:cut]), 64, cut, told("hi", 0))
	}
	wantSplitAs(t, "a spoilt one", join(hi, other(hi, 6, 9), hi), 64, 0, told("hi", 0), spoilt(11), told("hi", 22))
	wantSplitAs(t, "no mark", join(hi, []byte{9}, hi), 64, 0, told("hi", 0), givenUp(11))
	wantSplitAs(t, "no mark alone", []byte{9}, 64, 0, givenUp(0))
	wantSplitAs(t, "a length of 0", head(0), 64, 0, givenUp(0))
	wantSplitAs(t, "too long", join(head(200), make([]byte, 204)), 64, 0, tooLong(0))
	wantSplitAs(t, "too long, and a frame", join(head(200), make([]byte, 204), hi), 64, 0, tooLong(0), told("hi", 209))
	wantSplitAs(t, "too long, and not at its end", join(head(200), hi, hi), 64, 0, tooLong(0))
	wantSplitAs(t, "too long, its head", head(maxLength), 64, 0, tooLong(0))
}

func TestSplitAtTheLimit(t *testing.T) {
	for _, limit := range limits() {
		full, over := long(limit), long(limit+1)
		what := fmt.Sprint("limit ", limit)
		wantSplitAs(t, what, join(full, over, full), limit, 0, told(string(full[9:]), 0), tooLong(int64(limit)), told(string(full[9:]), int64(2*limit+1)))
		wantSplitAs(t, what+", all but one", full[:limit-1], limit, limit-1)
	}
}

func TestSplitOfWrongLimits(t *testing.T) {
	for _, limit := range wrongLimits() {
		for _, b := range [][]byte{nil, {0}, frame("hi"), frame("hi")[:5], head(0), long(5000)} {
			wantSplitAs(t, fmt.Sprint("limit ", limit), b, limit, 0)
		}
	}
}
