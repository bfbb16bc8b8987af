package stream_test

import (
	"fmt"
	"testing"

	"chronicle/api"
	"chronicle/probe"
)

// 17.2
func TestExamples(t *testing.T) {
	hi := frame("hi")
	want(t, "bytes of the frame", len(hi), 11)
	r := reader(t, 64)
	wantFeed(t, "a frame", r, hi, 0, api.OK, told("hi", 0))
	wantFeed(t, "four bytes", r, hi[:4], 4, api.ErrShort)
	wantFeed(t, "the rest", r, hi[4:], 0, api.OK, told("hi", 11))
	wantFeed(t, "no mark", r, []byte{0}, 0, api.ErrEnd, givenUp(22))
	wantFeed(t, "a frame behind it", r, hi, 0, api.ErrEnd)

	r = reader(t, 64)
	wantFeed(t, "four bytes of a long one", r, head(200)[:4], 4, api.ErrShort)
	wantFeed(t, "the fifth", r, head(200)[4:], 0, api.ErrShort, tooLong(0))
	wantFeed(t, "passed over", r, make([]byte, 203), 0, api.ErrShort)
	wantFeed(t, "the last one", r, []byte{0xc5}, 0, api.OK)
	wantFeed(t, "a frame behind it", r, hi, 0, api.OK, told("hi", 209))

	r = reader(t, 64)
	wantFeed(t, "the last byte changed", r, join(other(hi, 10, 1), hi), 0, api.OK, spoilt(0), told("hi", 11))

	r = reader(t, 64)
	wantFeed(t, "four bytes", r, head(0)[:4], 4, api.ErrShort)
	wantFeed(t, "a length of 0", r, head(0)[4:], 0, api.ErrEnd, givenUp(0))
}

// Chunks of no bytes tell nothing, wherever they come.
func TestFeedNothing(t *testing.T) {
	hi := frame("hi")
	for name, c := range map[string]struct {
		ahead   []byte
		waiting int
		end     api.Errno
	}{
		"at the begin":      {nil, 0, api.OK},
		"behind a byte":     {hi[:1], 1, api.ErrShort},
		"behind five":       {hi[:5], 5, api.ErrShort},
		"within a frame":    {hi[:10], 10, api.ErrShort},
		"behind a frame":    {hi, 0, api.OK},
		"behind a spoilt":   {other(hi, 9, 4), 0, api.OK},
		"while passing":     {head(200), 0, api.ErrShort},
		"behind a long one": {join(head(200), make([]byte, 204)), 0, api.OK},
		"given up":          {[]byte("x"), 0, api.ErrEnd},
	} {
		r := reader(t, 64)
		r.Feed(c.ahead)
		wantStand(t, name, r, c.waiting, c.end)
		for _, chunk := range [][]byte{nil, {}, make([]byte, 0, 9), hi[3:3]} {
			wantFeed(t, name, r, chunk, c.waiting, c.end)
		}
	}
}

func TestThreeFramesAndAHalf(t *testing.T) {
	a, b, c, d := frame("a"), frame("bb"), frame("ccc"), frame("dddd")
	r := reader(t, 64)
	wantFeed(t, "three and a half", r, join(a, b, c, d[:6]), 6, api.ErrShort, told("a", 0), told("bb", 10), told("ccc", 21))
	wantFeed(t, "the other half", r, d[6:], 0, api.OK, told("dddd", 33))
	wantFeed(t, "half a frame", r, a[:5], 5, api.ErrShort)
	wantFeed(t, "its half, and more", r, join(a[5:], b, c[:1]), 1, api.ErrShort, told("a", 46), told("bb", 56))
	wantFeed(t, "a byte", r, c[1:2], 2, api.ErrShort)
	wantFeed(t, "all but one", r, c[2:11], 11, api.ErrShort)
	wantFeed(t, "the last one", r, c[11:], 0, api.OK, told("ccc", 67))
}

func TestEachFirstPart(t *testing.T) {
	for _, size := range []int{10, 11, 63, 64} {
		b := long(size)
		body := string(b[9:])
		for cut := range size {
			what := fmt.Sprintf("%d of %d bytes", cut, size)
			end := api.ErrShort
			if cut == 0 {
				end = api.OK
			}
			r := reader(t, 64)
			wantFeed(t, what, r, b[:cut], cut, end)
			wantFeed(t, what+", the rest", r, b[cut:], 0, api.OK, told(body, 0))
			wantFeed(t, what+", and once more", r, join(b, b[:cut]), cut, end, told(body, int64(size)))
			wantFeed(t, what+", the rest and a frame", r, join(b[cut:], frame("hi")), 0, api.OK, told(body, int64(2*size)), told("hi", int64(3*size)))
		}
	}
}

// A frame may have just as many bytes as the limit.
func TestAtTheLimit(t *testing.T) {
	hi := frame("hi")
	for _, limit := range limits() {
		full, over := long(limit), long(limit+1)
		what := fmt.Sprint("limit ", limit)
		r := reader(t, limit)
		n := int64(limit)
		wantFeed(t, what+": full", r, full, 0, api.OK, told(string(full[9:]), 0))
		wantFeed(t, what+": all but one", r, full[:limit-1], limit-1, api.ErrShort)
		wantFeed(t, what+": the last byte", r, full[limit-1:], 0, api.OK, told(string(full[9:]), n))
		wantFeed(t, what+": one more", r, over, 0, api.OK, tooLong(2*n))
		wantFeed(t, what+": all together", r, join(full, over, hi, over, full, hi[:3]), 3, api.ErrShort,
			told(string(full[9:]), 3*n+1), tooLong(4*n+1), told("hi", 5*n+2), tooLong(5*n+13), told(string(full[9:]), 6*n+14))
		wantFeed(t, what+": and the rest", r, hi[3:], 0, api.OK, told("hi", 7*n+14))
		less := long(limit - 1)
		wantFeed(t, what+": one less", r, less, 0, api.OK, told(string(less[9:]), 7*n+25))
	}
}

// Lengths, told byte by byte: nothing is told ahead of the fifth byte.
func TestLengthsByteByByte(t *testing.T) {
	for _, limit := range limits() {
		for _, length := range []uint32{0, 1, 2, uint32(limit) - 10, uint32(limit) - 9, uint32(limit) - 8, uint32(limit), 255, 256, maxFrame - 9, maxFrame - 8, maxFrame, 1 << 16, 1 << 24, 1 << 31, maxLength - 9, maxLength - 8, maxLength} {
			what := fmt.Sprintf("limit %d, length %d", limit, length)
			b := head(length)
			r := reader(t, limit)
			for i := range 4 {
				wantFeed(t, what, r, b[i:i+1], i+1, api.ErrShort)
			}
			switch {
			case length == 0:
				wantFeed(t, what, r, b[4:], 0, api.ErrEnd, givenUp(0))
			case int(length)+9 > limit:
				wantFeed(t, what, r, b[4:], 0, api.ErrShort, tooLong(0))
				wantFeed(t, what+", told once", r, b, 0, api.ErrShort)
			default:
				wantFeed(t, what, r, b[4:], 5, api.ErrShort)
			}
		}
	}
}

// What is told of a length of 0 does not hang on what stands around it.
func TestNoLength(t *testing.T) {
	hi := frame("hi")
	for cut := range 5 {
		r := reader(t, 64)
		end := api.ErrShort
		if cut == 0 {
			end = api.OK
		}
		wantFeed(t, "ahead", r, join(hi, head(0)[:cut]), cut, end, told("hi", 0))
		wantFeed(t, "a length of 0", r, join(head(0)[cut:], make([]byte, 4), hi), 0, api.ErrEnd, givenUp(11))
		wantFeed(t, "a frame behind it", r, hi, 0, api.ErrEnd)
	}
}

func TestNoMark(t *testing.T) {
	hi := frame("hi")
	for name, ahead := range map[string][]byte{
		"at the begin":                nil,
		"behind a frame":              hi,
		"behind one at the limit":     long(64),
		"behind a spoilt one":         other(hi, 5, 0x80),
		"behind one that is too long": long(65),
		"behind a great one":          long(5000),
		"behind all of them":          join(hi, other(hi, 10, 1), long(200), hi),
	} {
		at := int64(len(ahead))
		for first := range 256 {
			if first == 0xc5 {
				continue
			}
			wrong := []byte{byte(first)}
			r := reader(t, 64)
			r.Feed(ahead)
			wantFeed(t, name, r, wrong, 0, api.ErrEnd, givenUp(at))
			list := append(slow(ahead, 64).list, givenUp(at))
			wantFeed(t, name+", in one chunk", reader(t, 64), join(ahead, wrong, hi), 0, api.ErrEnd, list...)
		}
	}
}

// The bytes behind what is no mark are none of a frame, even if they look so.
func TestBehindTheEnd(t *testing.T) {
	hi := frame("hi")
	for _, wrong := range [][]byte{{0}, {0xc4}, []byte("hello"), head(0), join([]byte{1}, hi)} {
		r := reader(t, 64)
		wantFeed(t, "given up", r, join(hi, wrong, hi, hi), 0, api.ErrEnd, told("hi", 0), givenUp(11))
		for _, more := range [][]byte{nil, hi, {0}, {0xc5}, head(0), head(200), long(64), long(65), make([]byte, 100000), join(hi, hi, hi)} {
			wantFeed(t, "behind the end", r, more, 0, api.ErrEnd)
		}
		for range 300 {
			wantFeed(t, "however much", r, hi, 0, api.ErrEnd)
		}
	}
}

// tooLongs is sizes of pieces that are too long for the limit 64.
func tooLongs() []int { return []int{65, 66, 127, 128, 129, 209, 4096, 4097, 70000} }

func TestTooLong(t *testing.T) {
	hi := frame("hi")
	for _, size := range tooLongs() {
		b := join(head(uint32(size-9)), []byte(probe.Text(7, size-5)))
		at := int64(size)
		what := fmt.Sprintf("%d bytes", size)

		r := reader(t, 64)
		wantFeed(t, what+", ending with the chunk", r, b, 0, api.OK, tooLong(0))
		wantFeed(t, what+", a frame behind", r, hi, 0, api.OK, told("hi", at))

		r = reader(t, 64)
		wantFeed(t, what+", ending within it", r, join(b, hi, hi[:2]), 2, api.ErrShort, tooLong(0), told("hi", at))
		wantFeed(t, what+", the rest", r, hi[2:], 0, api.OK, told("hi", at+11))

		r = reader(t, 64)
		wantFeed(t, what+", its head", r, b[:5], 0, api.ErrShort, tooLong(0))
		for i := 5; i < size-1; i += 50 {
			wantFeed(t, what+", chunks later", r, b[i:min(i+50, size-1)], 0, api.ErrShort)
		}
		wantFeed(t, what+", its last byte and a frame", r, join(b[size-1:], hi), 0, api.OK, told("hi", at))

		r = reader(t, 64)
		wantFeed(t, what+", all but one", r, b[:size-1], 0, api.ErrShort, tooLong(0))
		wantFeed(t, what+", the last one", r, b[size-1:], 0, api.OK)
		wantFeed(t, what+", another long one", r, join(b, b, hi), 0, api.OK, tooLong(at), tooLong(2*at), told("hi", 3*at))
	}
}

// While bytes are passed over, they may be whatever they are: frames, and what is none.
func TestPassedOver(t *testing.T) {
	hi := frame("hi")
	for name, inside := range map[string][]byte{
		"frames":   join(hi, hi, hi, hi, hi, hi),
		"no marks": make([]byte, 66),
		"marks":    []byte(probe.Text(3, 30) + "\xc5\xc5\xc5\xc5\xc5\xc5" + probe.Text(4, 30)),
		"heads":    join(head(0), head(1), head(200), head(maxLength), head(60), make([]byte, 41)),
	} {
		want(t, name, len(inside), 66)
		b := join(head(62), inside, hi)
		for _, size := range []int{1, 2, 5, 6, 7, 64, 70, 71, 72, 100} {
			wantChunks(t, name, 64, bytewise(b, size)...)
		}
		wantFeed(t, name, reader(t, 64), b, 0, api.OK, tooLong(0), told("hi", 71))
	}
}

// A length far above what comes is passed over as long as something comes.
func TestPassedOverForLong(t *testing.T) {
	for _, length := range []uint32{1 << 20, 1 << 31, maxLength} {
		r := reader(t, maxFrame)
		wantFeed(t, "a great length", r, head(length), 0, api.ErrShort, tooLong(0))
		for range 100 {
			wantFeed(t, "passed over", r, make([]byte, 10000), 0, api.ErrShort)
		}
	}
	// The last byte of 1 << 24 and its head.
	r := reader(t, 64)
	wantFeed(t, "the head", r, head(1<<24), 0, api.ErrShort, tooLong(0))
	chunk := make([]byte, 1<<20)
	for range 16 {
		r.Feed(chunk)
	}
	wantFeed(t, "three bytes", r, chunk[:3], 0, api.ErrShort)
	wantFeed(t, "the fourth", r, chunk[:1], 0, api.OK)
	wantFeed(t, "behind it", r, frame("hi"), 0, api.OK, told("hi", 1<<24+9))
}

func TestSpoiltBetween(t *testing.T) {
	for _, size := range []int{10, 11, 40, 64} {
		a, b, c := frame("ahead"), long(size), frame("behind")
		for at := 5; at < size; at++ { // the sum, and the body
			for _, by := range []byte{1, 0x80, 0xff} {
				what := fmt.Sprintf("byte %d of %d", at, size)
				row := join(a, other(b, at, by), c)
				list := []api.Framed{told("ahead", 0), spoilt(14), told("behind", int64(14+size))}
				wantFeed(t, what, reader(t, 64), row, 0, api.OK, list...)
				r := reader(t, 64)
				wantFeed(t, what+", all but its last byte", r, row[:13+size], size-1, api.ErrShort, list[0])
				wantFeed(t, what+", its last byte", r, row[13+size:14+size], 0, api.OK, list[1])
				wantFeed(t, what+", and the rest", r, row[14+size:], 0, api.OK, list[2])
			}
		}
	}
}

// A frame whose length is changed is another piece, and what was its rest is taken as it is then.
func TestChangedLength(t *testing.T) {
	hi := frame("hi")
	r := reader(t, 64)
	wantFeed(t, "a byte less", r, join(other(hi, 4, 3), hi), 0, api.ErrEnd, spoilt(0), givenUp(10))
	r = reader(t, 64)
	wantFeed(t, "a byte more", r, join(other(hi, 4, 1), hi), 0, api.ErrEnd, spoilt(0), givenUp(12))
	r = reader(t, 64)
	wantFeed(t, "a frame more", r, join(other(hi, 4, 2^13), hi, hi), 0, api.OK, spoilt(0), told("hi", 22))
}
