package stream_test

import (
	"bytes"
	"encoding/binary"
	"fmt"
	"hash/crc32"
	"math"
	"slices"
	"testing"

	"chronicle/api"
	"chronicle/probe"
	"chronicle/stream"
)

const (
	maxFrame  = 4096
	maxLength = math.MaxUint32
)

// limits is the limits that a reader may have: the edges, and some in between.
func limits() []int { return []int{64, 65, 100, 1000, 4095, maxFrame} }

// wrongLimits is limits that none may have.
func wrongLimits() []int {
	return []int{63, 62, 1, 0, -1, -64, -4096, maxFrame + 1, maxFrame + 64, 1 << 20, 1<<32 + 64, math.MaxInt, math.MinInt}
}

// head is a frame's first five bytes, of a body that has any length.
func head(length uint32) []byte {
	return binary.BigEndian.AppendUint32([]byte{0xc5}, length)
}

// sumOf is the sum of a body and of its length.
func sumOf(body []byte) uint32 {
	summed := append(binary.BigEndian.AppendUint32(nil, uint32(len(body))), body...)
	return crc32.Checksum(summed, crc32.MakeTable(crc32.Castagnoli))
}

// frame lays the head of a frame ahead of any body, with the right sum.
func frame(body string) []byte {
	b := head(uint32(len(body)))
	b = binary.BigEndian.AppendUint32(b, sumOf([]byte(body)))
	return append(b, body...)
}

// long is a frame of so many bytes.
func long(size int) []byte { return frame(probe.Text(uint64(size), size-9)) }

// other is bytes of which one is another one.
func other(b []byte, at int, by byte) []byte {
	b = bytes.Clone(b)
	b[at] ^= by
	return b
}

func join(parts ...[]byte) []byte { return slices.Concat(parts...) }

func told(body string, at int64) api.Framed {
	return api.Framed{Kind: api.StFrame, Body: []byte(body), At: at}
}

func spoilt(at int64) api.Framed { return api.Framed{Kind: api.StBad, At: at, Err: api.ErrFrame} }

func tooLong(at int64) api.Framed { return api.Framed{Kind: api.StBad, At: at, Err: api.ErrHuge} }

func givenUp(at int64) api.Framed { return api.Framed{Kind: api.StDead, At: at, Err: api.ErrFrame} }

func same(a, b []api.Framed) bool {
	return slices.EqualFunc(a, b, func(x, y api.Framed) bool {
		return x.Kind == y.Kind && bytes.Equal(x.Body, y.Body) && x.At == y.At && x.Err == y.Err
	})
}

// copied is a list whose bodies are its own.
func copied(list []api.Framed) []api.Framed {
	list = slices.Clone(list)
	for i := range list {
		list[i].Body = bytes.Clone(list[i].Body)
	}
	return list
}

// brief tells a list, cut short.
func brief(list []api.Framed) string { return fmt.Sprintf("%d: %.300v", len(list), fmt.Sprint(list)) }

func reader(t *testing.T, limit int) *stream.Reader {
	t.Helper()
	r, e := stream.New(limit)
	if r == nil || e != api.OK {
		t.Fatalf("New(%d) = %v, %d", limit, r, e)
	}
	return r
}

// wantStand fails unless a reader stands as is wanted.
func wantStand(t *testing.T, what string, r *stream.Reader, waiting int, end api.Errno) {
	t.Helper()
	if w, e, d := r.Waiting(), r.End(), r.Dead(); w != waiting || e != end || d != (end == api.ErrEnd) {
		t.Errorf("%s: %d wait, End %d, dead %v, want %d and %d", what, w, e, d, waiting, end)
	}
}

// wantFeed fails unless a chunk is told as is wanted; what is handed in is written over behind that.
func wantFeed(t *testing.T, what string, r *stream.Reader, chunk []byte, waiting int, end api.Errno, list ...api.Framed) {
	t.Helper()
	mine, unchanged := probe.Roomy(string(chunk))
	got := r.Feed(mine)
	if !unchanged() {
		t.Errorf("%s: the chunk is changed", what)
	}
	probe.Scribble(mine)
	if !same(got, list) {
		t.Errorf("%s: %s, want %s", what, brief(got), brief(list))
	}
	wantStand(t, what, r, waiting, end)
}

// want fails if an answer is another one than is wanted.
func want[T comparable](t *testing.T, what string, got, wanted T) {
	t.Helper()
	if got != wanted {
		t.Errorf("%s: %v, want %v", what, got, wanted)
	}
}
