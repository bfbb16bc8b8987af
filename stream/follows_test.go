package stream_test

import (
	"bytes"
	"fmt"
	"testing"

	"chronicle/api"
	"chronicle/probe"
	"chronicle/stream"
	"chronicle/wire"
)

// streams is streams with all kinds of pieces in them, for the limit 64.
func streams() map[string][]byte {
	hi, bad := frame("hi"), other(frame("hi"), 10, 1)
	over := join(head(56), []byte(probe.Text(5, 60)))
	return map[string][]byte{
		"nothing":                {},
		"a byte":                 {0xc5},
		"no mark":                {0},
		"a frame":                hi,
		"frames":                 join(hi, frame("a"), long(64), hi),
		"frames and a part":      join(hi, frame("a"), hi[:10]),
		"a spoilt one":           join(hi, bad, hi, hi[:1]),
		"spoilt ones alone":      join(bad, bad, other(long(64), 5, 1)),
		"too long":               join(hi, over, hi),
		"too long at the end":    join(hi, over),
		"not passed over yet":    join(hi, over[:40]),
		"too long ones":          join(over, over, bad, over, hi),
		"a great length":         join(hi, head(maxLength), hi, hi),
		"given up":               join(hi, bad, []byte{1}, hi, hi),
		"given up at a length":   join(hi, head(0), hi),
		"given up behind a long": join(over, []byte("no frame begins here")),
		"a frame in a frame":     join(frame(string(hi)), hi),
	}
}

// 17.8: cut once, and cut twice, wherever that is.
func TestAnyTwoCuts(t *testing.T) {
	for name, b := range streams() {
		wantSplit(t, name, 64, b)
		for i := range len(b) + 1 {
			wantChunks(t, name, 64, cutAt(b, i)...)
			for j := i; j <= len(b); j++ {
				wantChunks(t, name, 64, cutAt(b, i, j)...)
			}
		}
	}
}

func TestChunksOfEachSize(t *testing.T) {
	for name, b := range streams() {
		for size := 1; size <= len(b); size++ {
			wantChunks(t, name, 64, bytewise(b, size)...)
		}
	}
}

// piecesOf is a stream of some pieces, the last one cut off now and then; it is given up seldom.
func piecesOf(seed uint64, limit int) []byte {
	var b []byte
	noise := probe.Noise(seed, 60)
	for _, x := range noise[:1+noise[40]>>20%30] {
		size := []int{10, 11, 12 + int(x>>8%40), limit - 1, limit, 10 + int(x>>16)%(limit-9)}[x>>30%6]
		piece := long(size)
		switch x >> 40 % 12 {
		case 0:
			piece = other(piece, 5+int(x>>44)%(size-5), 1<<(x>>20%8))
		case 1:
			piece = long(limit + 1 + int(x>>44%7000))
		case 2:
			piece = join(head(uint32(limit-8)+uint32(x>>44%300)), piece) // what it passes over, and what it ends in, is what comes
		case 3:
			if x>>50%4 == 0 {
				piece = other(piece, int(x>>44%5), byte(x>>20)|1)
			}
		}
		b = append(b, piece...)
	}
	if cut := int(noise[41] >> 20 % 30); noise[42]>>20%3 > 0 {
		b = b[:max(len(b)-cut, 0)]
	}
	return b
}

// Any streams, in any chunks, the cuts as a script has them.
func TestAnyCuts(t *testing.T) {
	kinds := map[string]int{}
	for seed := range uint64(600) {
		limit := limits()[seed%6]
		b := piecesOf(seed, limit)
		what := fmt.Sprint("seed ", seed)
		wantSplit(t, what, limit, b)
		var at []int
		for _, x := range probe.Noise(seed+1000, int(seed)%50) {
			at = append(at, int(x>>20))
		}
		wantChunks(t, what, limit, cutAt(b, stream.Cuts(len(b), at)...)...)
		s := slow(b, limit)
		kinds[fmt.Sprint("end ", s.end)]++
		for _, piece := range s.list {
			kinds[fmt.Sprintf("%d %d", piece.Kind, piece.Err)]++
		}
	}
	for _, kind := range []string{"end 0", "end 10", "end 173", "0 0", "1 160", "1 163", "2 160"} {
		if kinds[kind] < 30 {
			t.Errorf("%s: too few: %v", kind, kinds)
		}
	}
}

// The same of long streams whose chunks are longer than the memory.
func TestLongStreams(t *testing.T) {
	for seed := range uint64(6) {
		limit := limits()[seed]
		var b []byte
		for part := range uint64(12) {
			if more := piecesOf(seed*100+part, limit); slow(more, limit).end == api.OK {
				b = append(b, more...)
			}
		}
		for _, size := range []int{limit - 1, limit, limit + 1, 3*limit + 7, 20000} {
			wantChunks(t, fmt.Sprint("chunks of ", size), limit, bytewise(b, size)...)
		}
	}
}

// R1: any bytes are answered, and none panics.
func TestAnyBytes(t *testing.T) {
	for seed := range uint64(2000) {
		b := []byte(probe.Text(seed, int(seed)%300))
		for i := 0; i+5 < len(b); i += 5 + int(b[i]) {
			if seed%3 > 0 {
				copy(b[i:], head(uint32(b[i+5])>>(seed%5)))
			}
		}
		limit := limits()[seed%3]
		wantSplit(t, "any bytes", limit, b)
		wantChunks(t, "any bytes", limit, bytewise(b, 1+int(seed)%20)...)
	}
}

// sent is the frames of some bodies, one behind the other, and where each begins.
func sent(t *testing.T, bodies [][]byte) (row []byte, begins []int) {
	t.Helper()
	for _, body := range bodies {
		b, e := wire.Frame(body)
		want(t, "Frame", e, api.OK)
		begins = append(begins, len(row))
		row = append(row, b...)
	}
	return row, append(begins, len(row))
}

// bodiesOf is bodies whose frames have at most limit bytes.
func bodiesOf(seed uint64, limit int) [][]byte {
	var bodies [][]byte
	noise := probe.Noise(seed, 30)
	for i, x := range noise[:1+noise[20]>>20%12] {
		size := []int{1, 2, 1 + int(x>>20)%(limit-9), limit - 9, 1 + int(x>>20%20)}[x>>40%5]
		body := []byte(probe.Text(x, size))
		if i%4 == 3 {
			body = bytes.Repeat([]byte{0xc5, 0, 0, 0, 0}, 1+size/5)[:size] // like heads
		}
		bodies = append(bodies, body)
	}
	return bodies
}

// chunked is what a new reader tells of a stream in all, and the reader.
func chunked(t *testing.T, limit int, b []byte, at []int) ([]api.Framed, *stream.Reader) {
	t.Helper()
	r := reader(t, limit)
	var list []api.Framed
	for _, chunk := range cutAt(b, stream.Cuts(len(b), at)...) {
		list = append(list, r.Feed(chunk)...)
	}
	return list, r
}

// 17.9
func TestWhatWasSent(t *testing.T) {
	for seed := range uint64(300) {
		limit := limits()[seed%6]
		bodies := bodiesOf(seed, limit)
		row, begins := sent(t, bodies)
		var wanted []api.Framed
		for i, body := range bodies {
			wanted = append(wanted, told(string(body), int64(begins[i])))
		}
		var at []int
		for _, x := range probe.Noise(seed, int(seed)%40) {
			at = append(at, int(x))
		}
		list, r := chunked(t, limit, row, at)
		if !same(list, wanted) {
			t.Fatalf("seed %d: %s, want %s", seed, brief(list), brief(wanted))
		}
		wantStand(t, fmt.Sprint("seed ", seed), r, 0, api.OK)

		for i, x := range probe.Noise(seed+7, len(bodies)) { // a byte of the sum or of the body is another one
			where := begins[i] + 5 + int(x>>20)%(4+len(bodies[i]))
			by := byte(x>>40) | 1<<(x>>50%8)
			list, r := chunked(t, limit, other(row, where, by), at)
			damaged := copied(wanted)
			damaged[i] = spoilt(int64(begins[i]))
			if !same(list, damaged) {
				t.Fatalf("seed %d, frame %d: %s, want %s", seed, i, brief(list), brief(damaged))
			}
			wantStand(t, fmt.Sprintf("seed %d, frame %d", seed, i), r, 0, api.OK)
		}
	}
}

// Requests travel: a reader tells the bodies of their frames, and these are requests again.
func TestRequestsTravel(t *testing.T) {
	var row []byte
	var list []api.Request
	for i := range 20 {
		r := api.Request{Id: uint32(i), Op: api.OpPut, Topic: "t", Key: fmt.Sprint("key ", i), Value: probe.Text(uint64(i), i*50)}
		b, e := wire.EncodeRequest(r)
		want(t, "EncodeRequest", e, api.OK)
		row, list = append(row, b...), append(list, r)
	}
	for _, size := range []int{1, 7, 100, 5000, len(row)} {
		r := reader(t, maxFrame)
		known := 0
		for _, chunk := range bytewise(row, size) {
			for _, piece := range r.Feed(chunk) {
				b, _ := wire.Frame(piece.Body)
				back, e := wire.DecodeRequest(b)
				if known >= len(list) || back != list[known] || e != api.OK {
					t.Fatalf("chunks of %d, request %d: %.100v, %d", size, known, back, e)
				}
				known++
			}
		}
		want(t, "requests", known, len(list))
	}
}
