package wire_test

import (
	"bytes"
	"math"
	"slices"
	"testing"

	"chronicle/api"
	"chronicle/probe"
	"chronicle/wire"
)

// wantAsRead fails unless a body, in a right frame, is read as the slow readers do.
func wantAsRead(t *testing.T, body []byte) (asRequest, asResponse bool) {
	t.Helper()
	frame := slowFrame(body)
	r, isRequest := readRequest(body)
	errno := api.ErrRequest
	if isRequest {
		errno = api.OK
	}
	if got, e := wire.DecodeRequest(frame); got != r || e != errno {
		t.Fatalf("DecodeRequest of %.80x: %s, %d, want %s, %d", body, brief(got), e, brief(r), errno)
	}
	s, isResponse := readResponse(body)
	errno = api.ErrResponse
	if isResponse {
		errno = api.OK
	}
	if got, e := wire.DecodeResponse(frame); !sameResponse(got, s) || e != errno {
		t.Fatalf("DecodeResponse of %.80x: %s, %d, want %s, %d", body, brief(got), e, brief(s), errno)
	}
	if isRequest {
		again, e := wire.EncodeRequest(r)
		wantFrame(t, "EncodeRequest of DecodeRequest", again, e, frame)
	}
	if isResponse {
		again, e := wire.EncodeResponse(s)
		wantFrame(t, "EncodeResponse of DecodeResponse", again, e, frame)
	}
	return isRequest, isResponse
}

// Encode of what Decode took gives the bytes: of all bodies of at most three bytes that begin as they may, and of longer ones of some bytes.
func TestShortBodies(t *testing.T) {
	taken := 0
	count := func(body ...byte) {
		if a, b := wantAsRead(t, body); a || b {
			taken++
		}
	}
	for a := range 256 {
		count(byte(a))
		count(0x51, byte(a))
		count(0x52, byte(a))
		for b := range 256 {
			count(0x51, byte(a), byte(b))
			count(0x52, byte(a), byte(b))
		}
	}
	want(t, "bodies of at most three bytes", taken, 128) // of a ping, with each Id below 128
	signs := []byte{0, 1, 2, 't', 0x7f, 0x80, 0xff}
	for op := range byte(17) {
		for x := range 7 * 7 * 7 * 7 {
			count(0x51, op, signs[x%7], signs[x/7%7], signs[x/49%7], signs[x/343])
		}
	}
	want(t, "some are taken", taken > 1000, true)
}

// changed is a body with one thing done to it.
func changed(body []byte, x uint64) []byte {
	b := bytes.Clone(body)
	at := int(x>>8) & math.MaxInt32 % len(b)
	if x>>60%2 == 0 { // ahead, where the numbers stand, more often
		at = min(at, int(x>>40%20)) % len(b)
	}
	c := byte(x >> 50)
	switch x % 6 {
	case 0:
		b[at] = c
	case 1:
		b[at] ^= 1 << (c % 8)
	case 2:
		b = slices.Delete(b, at, at+1)
	case 3:
		b = slices.Insert(b, at, c)
	case 4:
		b[at]++
	case 5:
		b = b[:at+1]
	}
	return b
}

func TestChangedBodies(t *testing.T) {
	var bodies [][]byte
	for _, r := range requests() {
		bodies = append(bodies, join(slowRequest(r)))
	}
	for _, r := range responses(t) {
		bodies = append(bodies, join(slowResponse(r)))
	}
	requested, answered, all := 0, 0, 0
	for i, body := range bodies {
		for _, x := range probe.Noise(uint64(i), 60) {
			other := changed(body, x)
			if x>>55%3 == 0 && len(other) > 0 {
				other = changed(other, x>>3)
			}
			if len(other) == 0 || len(other) > maxFrame-9 {
				continue
			}
			a, b := wantAsRead(t, other)
			all++
			if a {
				requested++
			}
			if b {
				answered++
			}
		}
	}
	if all < 10000 || requested < 500 || answered < 500 {
		t.Errorf("of %d bodies %d are requests, %d responses: too few", all, requested, answered)
	}
}

// any request: some of its fields are what they may be, some not.
func anyRequest(seed uint64) api.Request {
	noise := probe.Noise(seed, 12)
	r := api.Request{Id: uint32(noise[0]), Op: int(noise[1]>>20)%17 - int(noise[1]>>40)%2*int(noise[2]>>30%2)}
	for i, field := range fields() {
		x := noise[3+i] >> 20
		if !uses(r.Op, field) && x%16 > 0 {
			continue
		}
		if n := most(field); n > 0 {
			n = []int{0, 1, n / 2, n, n, n, n, n + 1}[x>>8%8]
			r = with(r, field, probe.Text(x, n))
		} else {
			r = with(r, field, []int64{0, 1, 127, 128, 1 << 40, math.MaxInt64, int64(x), -1}[x>>8%8])
		}
	}
	return r
}

func TestAnyRequests(t *testing.T) {
	right, wrong := 0, 0
	for seed := range uint64(5000) {
		r := anyRequest(seed)
		if !rightRequest(r) {
			wrong++
			wantNoRequest(t, brief(r), r)
			continue
		}
		right++
		want(t, brief(r), wire.CheckRequest(r), api.OK)
		b, e := wire.EncodeRequest(r)
		wantFrame(t, brief(r), b, e, slowFrame(join(slowRequest(r))))
		if back, e := wire.DecodeRequest(b); back != r || e != api.OK {
			t.Errorf("DecodeRequest of %s: %s, %d", brief(r), brief(back), e)
		}
	}
	if right < 1000 || wrong < 1000 {
		t.Errorf("%d right ones, %d wrong ones: too few", right, wrong)
	}
}

// any response: likewise.
func anyResponse(seed uint64) api.Response {
	noise := probe.Noise(seed, 30)
	pick := func(i int, list ...int64) int64 { return list[int(noise[i]>>20)%len(list)] }
	r := api.Response{
		Id:     uint32(noise[0] >> (noise[1] >> 20 % 64)),
		Op:     int(pick(2, 1, 2, 4, 5, 7, 8, 13, 15, 64, 64, 64, 64, 64, 64, 64, 16, 0)),
		Code:   int(pick(3, 0, 0, 0, 0, 1, 2, 6, 9, 10, 11, 11, 0, 0, 12, -1)),
		Offset: pick(4, 0, 1, -1, 63, 64, -64, -65, 1<<40, math.MaxInt64, math.MinInt64),
		Number: pick(5, 0, 1, -1, 63, 64, -64, -65, 1<<40, math.MaxInt64, math.MinInt64),
		More:   noise[6]>>20%2 == 0,
	}
	for i := range pick(7, 0, 0, 0, 1, 2, 3, 15, 16, 16, 17) {
		r.Names = append(r.Names, probe.Text(seed+uint64(i), int(pick(8+int(i), 0, 1, 5, 12, 23, 24, 24, 24, 24, 24, 24, 24, 24, 24, 24, 25))))
	}
	if noise[28]>>20%3 > 0 {
		r.Records = some(seed, []int{3, 10, 60, 300}[noise[29]>>20%4])
	}
	return r
}

func TestAnyResponses(t *testing.T) {
	count := map[api.Errno]int{}
	for seed := range uint64(3000) {
		r := anyResponse(seed)
		errno := slowCheck(r)
		count[errno]++
		if errno != api.OK {
			wantNoResponse(t, brief(r), r, errno)
			continue
		}
		want(t, brief(r), wire.CheckResponse(r), api.OK)
		b, e := wire.EncodeResponse(r)
		wantFrame(t, brief(r), b, e, slowFrame(join(slowResponse(r))))
		if back, e := wire.DecodeResponse(b); !sameResponse(back, r) || e != api.OK {
			t.Errorf("DecodeResponse of %s: %s, %d", brief(r), brief(back), e)
		}
	}
	if count[api.OK] < 500 || count[api.ErrResponse] < 300 || count[api.ErrHuge] < 100 {
		t.Errorf("too few of a kind: %v", count)
	}
}

// R1: any bytes are answered, and none panics.
func TestAnyBytes(t *testing.T) {
	for seed := range uint64(3000) {
		b := []byte(probe.Text(seed, int(seed)%70))
		if len(b) > 0 && seed%2 == 0 {
			b[0] = 0xc5
		}
		if len(b) > 4 && seed%4 == 0 {
			copy(b[1:], []byte{0, 0, 0, byte(len(b) - 9)})
		}
		wantUnread(t, "any bytes", b, api.ErrFrame, api.ErrFrame)
		wire.Head(b)
	}
}
