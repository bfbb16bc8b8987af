package wire_test

import (
	"bytes"
	"encoding/hex"
	"fmt"
	"math"
	"testing"

	"chronicle/api"
	"chronicle/probe"
	"chronicle/wire"
)

// lengths is how long a body may be: the edges, and some in between.
func lengths() []int { return []int{1, 2, 3, 127, 128, 255, 256, 257, 1000, 4086, maxFrame - 9} }

// 16.1
func TestFrame(t *testing.T) {
	for _, n := range lengths() {
		body := []byte(probe.Text(uint64(n), n))
		frame, e := wire.Frame(body)
		wantFrame(t, fmt.Sprint("Frame of ", n), frame, e, slowFrame(body))
		want(t, fmt.Sprint("length of the frame of ", n), len(frame), n+9)
		back, e := wire.Body(frame)
		wantFrame(t, fmt.Sprint("Body of Frame of ", n), back, e, body)
	}
	for first := range 256 {
		body := []byte{byte(first)}
		frame, e := wire.Frame(body)
		wantFrame(t, fmt.Sprintf("Frame(%x)", body), frame, e, slowFrame(body))
	}
	frame, e := wire.Frame([]byte("hi"))
	right, _ := hex.DecodeString("c500000002" + "00000000" + "6869")
	copy(right[5:], slowFrame([]byte("hi"))[5:9])
	wantFrame(t, "the example", frame, e, right)
}

func TestFrameThatMayNotBe(t *testing.T) {
	for name, body := range map[string][]byte{"nil": nil, "none": {}, "none, with room": make([]byte, 0, 8)} {
		b, e := wire.Frame(body)
		wantNoBytes(t, name, b, e, api.ErrFrame)
	}
	for _, n := range []int{maxFrame - 8, maxFrame - 7, maxFrame, maxFrame + 1, 65536, 1 << 20} {
		b, e := wire.Frame(make([]byte, n))
		wantNoBytes(t, fmt.Sprint("Frame of ", n), b, e, api.ErrHuge)
	}
}

func wantHead(t *testing.T, b []byte, n int, errno api.Errno) {
	t.Helper()
	if got, e := wire.Head(b); got != n || e != errno {
		t.Errorf("Head(%.40x) = %d, %d, want %d, %d", b, got, e, n, errno)
	}
}

func TestHeadTooShort(t *testing.T) {
	wantHead(t, nil, 0, api.ErrShort)
	wantHead(t, []byte{}, 0, api.ErrShort)
	for _, whole := range []string{"\xc5\x00\x00\x00", "\xc5\xff\xff\xff", "\xc5\xc5\xc5\xc5", "\xc5\x00\x00\x0f"} {
		for n := range 4 {
			wantHead(t, []byte(whole[:n+1]), 0, api.ErrShort)
		}
	}
}

func TestHeadThatIsNoMark(t *testing.T) {
	for first := range 256 {
		if first == 0xc5 {
			continue
		}
		for _, behind := range []string{"", "\xc5", "\x00\x00\x00", "\x00\x00\x00\x00", "\x00\x00\x00\x01", "\xff\xff\xff\xff", "\x00\x00\x00\x01 and more"} {
			wantHead(t, append([]byte{byte(first)}, behind...), 0, api.ErrFrame)
		}
	}
}

func TestHeadOfLengths(t *testing.T) {
	type answer struct {
		n int
		e api.Errno
	}
	for length, right := range map[uint32]answer{
		0:              {0, api.ErrFrame},
		1:              {10, api.OK},
		2:              {11, api.OK},
		255:            {264, api.OK},
		256:            {265, api.OK},
		maxFrame - 10:  {4095, api.OK},
		maxFrame - 9:   {4096, api.OK},
		maxFrame - 8:   {4097, api.ErrHuge},
		maxFrame:       {4105, api.ErrHuge},
		1 << 16:        {1<<16 + 9, api.ErrHuge},
		1 << 24:        {1<<24 + 9, api.ErrHuge},
		1 << 31:        {1<<31 + 9, api.ErrHuge},
		math.MaxUint32: {1<<32 + 8, api.ErrHuge},
	} {
		b := []byte{0xc5, byte(length >> 24), byte(length >> 16), byte(length >> 8), byte(length)}
		wantHead(t, b, right.n, right.e)
		// What stands behind the length is not looked at.
		for _, behind := range []string{"\x00", "\xff\xff\xff\xff", "sum.body", string(make([]byte, 5000))} {
			wantHead(t, append(bytes.Clone(b), behind...), right.n, right.e)
		}
	}
}

func wantNoBody(t *testing.T, what string, b []byte) {
	t.Helper()
	body, e := wire.Body(b)
	wantNoBytes(t, what+": Body", body, e, api.ErrFrame)
	wantUnread(t, what, b, api.ErrFrame, api.ErrFrame)
}

func TestBodyOfPartsOfAFrame(t *testing.T) {
	wantNoBody(t, "nil", nil)
	for _, n := range []int{1, 7, 300} {
		frame := slowFrame([]byte(probe.Text(uint64(n), n)))
		for end := range frame {
			wantNoBody(t, "a first part", frame[:end])
		}
		for _, behind := range [][]byte{{0}, {0xc5}, {0xff}, frame} {
			wantNoBody(t, "more behind it", append(bytes.Clone(frame), behind...))
		}
	}
}

func TestBodyOfFramesThatMayNotBe(t *testing.T) {
	// The sums are right, and the lengths are what is there.
	wantNoBody(t, "no body", slowFrame(nil))
	for _, n := range []int{maxFrame - 8, maxFrame - 7, 65536} {
		wantNoBody(t, fmt.Sprint("a body of ", n), slowFrame(make([]byte, n)))
	}
	// The sum without the length, of no bytes, and turned round.
	right := slowFrame([]byte("hi"))
	for _, sum := range []string{"\x00\x00\x00\x00", "\xff\xff\xff\xff", string([]byte{right[8], right[7], right[6], right[5]})} {
		b := bytes.Clone(right)
		copy(b[5:], sum)
		wantNoBody(t, "another sum", b)
	}
}

func TestBodyOfAChangedFrame(t *testing.T) {
	r, _ := wire.EncodeRequest(api.Request{Id: 7, Op: api.OpGet, Topic: "t", Key: "k"})
	s, _ := wire.EncodeResponse(api.Response{Id: 7, Op: api.OpGet, Names: []string{"a"}, Records: []api.Record{value(1, "k", "v")}})
	for _, frame := range [][]byte{slowFrame([]byte("hi")), r, s} {
		for at := range frame {
			for other := range 256 {
				if byte(other) == frame[at] {
					continue
				}
				b := bytes.Clone(frame)
				b[at] = byte(other)
				wantNoBody(t, fmt.Sprintf("byte %d is %x", at, other), b)
			}
		}
	}
}
