package wire_test

import (
	"bytes"
	"fmt"
	"testing"

	"chronicle/api"
	"chronicle/probe"
	"chronicle/wire"
)

// What follows: no frame is both.
func TestNoFrameIsBoth(t *testing.T) {
	for _, r := range requests() {
		b, _ := wire.EncodeRequest(r)
		if s, e := wire.DecodeResponse(b); !sameResponse(s, api.Response{}) || e != api.ErrResponse {
			t.Errorf("%s as a response: %s, %d", brief(r), brief(s), e)
		}
	}
	for _, r := range responses(t) {
		b, _ := wire.EncodeResponse(r)
		if q, e := wire.DecodeRequest(b); q != (api.Request{}) || e != api.ErrRequest {
			t.Errorf("%s as a request: %s, %d", brief(r), brief(q), e)
		}
	}
}

func TestFramesOneBehindTheOther(t *testing.T) {
	var row []byte
	var frames [][]byte
	for i, r := range requests() {
		b, _ := wire.EncodeRequest(r)
		frames = append(frames, b)
		if more, e := wire.Frame([]byte(probe.Text(uint64(i), 1+i*7%4000))); e == api.OK {
			frames = append(frames, more)
		}
	}
	for _, r := range responses(t) {
		b, _ := wire.EncodeResponse(r)
		frames = append(frames, b)
	}
	for _, b := range frames {
		row = append(row, b...)
	}
	for i, frame := range frames {
		n, e := wire.Head(row)
		if n != len(frame) || e != api.OK {
			t.Fatalf("frame %d: Head = %d, %d, want %d", i, n, e, len(frame))
		}
		if !bytes.Equal(row[:n], frame) {
			t.Fatalf("frame %d is another one", i)
		}
		row = row[n:]
	}
	want(t, "left over", len(row), 0)
}

// One to four bytes of a frame are other ones, all in the body or all ahead of it: it is none of the same length.
func TestDamagedFrames(t *testing.T) {
	request, response := framesOf(t)
	long, _ := wire.Frame([]byte(probe.Text(4, maxFrame-9)))
	for _, frame := range []string{request, response, string(long), string(slowFrame([]byte{0}))} {
		for _, x := range probe.Noise(uint64(len(frame)), 4000) {
			run := 1 + int(x>>8%4)
			from, end := 9, len(frame)
			if x>>16%2 == 0 {
				from, end = 0, 9
			}
			run = min(run, end-from)
			at := from + int(x>>20)%(end-from-run+1)
			b := []byte(frame)
			for i := range run {
				b[at+i] ^= byte(x >> (32 + 8*i))
			}
			if string(b) == frame {
				continue
			}
			body, e := wire.Body(b)
			wantNoBytes(t, fmt.Sprintf("%d bytes at %d", run, at), body, e, api.ErrFrame)
		}
	}
}

func TestRequestsAreShort(t *testing.T) {
	longest := 0
	for op := range usage() {
		b, e := wire.EncodeRequest(greatest(op))
		want(t, fmt.Sprint("operation ", op), e, api.OK)
		longest = max(longest, len(b))
	}
	want(t, "at most 1180 bytes", longest <= 1180, true)
	want(t, "the longest one", longest, 9+2+5+1+24+1+64+2+1024+9+9)
}
