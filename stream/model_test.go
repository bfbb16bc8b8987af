package stream_test

import (
	"encoding/binary"
	"fmt"
	"testing"

	"chronicle/api"
	"chronicle/probe"
	"chronicle/stream"
)

// stand is what a reader has told of a stream, and how it stands behind it.
type stand struct {
	list    []api.Framed
	waiting int
	end     api.Errno
}

// slow looks at a stream as a whole, and at each piece from its first byte on.
func slow(b []byte, limit int) stand {
	var s stand
	for at := 0; at < len(b); {
		rest := b[at:]
		if rest[0] != 0xc5 || len(rest) >= 5 && string(rest[1:5]) == "\x00\x00\x00\x00" {
			return stand{append(s.list, givenUp(int64(at))), 0, api.ErrEnd}
		}
		if len(rest) < 5 {
			return stand{s.list, len(rest), api.ErrShort}
		}
		size := 9 + int(binary.BigEndian.Uint32(rest[1:]))
		switch {
		case size > limit:
			s.list = append(s.list, tooLong(int64(at)))
			if size > len(rest) {
				return stand{s.list, 0, api.ErrShort}
			}
		case size > len(rest):
			return stand{s.list, len(rest), api.ErrShort}
		case sumOf(rest[9:size]) != binary.BigEndian.Uint32(rest[5:]):
			s.list = append(s.list, spoilt(int64(at)))
		default:
			s.list = append(s.list, told(string(rest[9:size]), int64(at)))
		}
		at += size
	}
	return s
}

// wantChunks fails unless a new reader that is fed chunks tells, behind each of them, what the slow one tells of the stream so far.
func wantChunks(t *testing.T, what string, limit int, chunks ...[]byte) *stream.Reader {
	t.Helper()
	r := reader(t, limit)
	var b []byte
	known := 0
	for i, chunk := range chunks {
		b = append(b, chunk...)
		s := slow(b, limit)
		mine, unchanged := probe.Roomy(string(chunk))
		got := r.Feed(mine)
		if !unchanged() {
			t.Fatalf("%s: chunk %d is changed", what, i)
		}
		probe.Scribble(mine)
		if !same(got, s.list[known:]) {
			t.Fatalf("%s: limit %d, chunk %d (%.20x): %s, want %s", what, limit, i, chunk, brief(got), brief(s.list[known:]))
		}
		known = len(s.list)
		if w, e, d := r.Waiting(), r.End(), r.Dead(); w != s.waiting || e != s.end || d != (e == api.ErrEnd) || w >= limit {
			t.Fatalf("%s: limit %d, behind chunk %d (%.20x): %d wait, End %d, dead %v, want %d, %d", what, limit, i, chunk, w, e, d, s.waiting, s.end)
		}
	}
	return r
}

// wantSplit fails unless a whole stream is split as the slow one tells it.
func wantSplit(t *testing.T, what string, limit int, b []byte) {
	t.Helper()
	s := slow(b, limit)
	mine, unchanged := probe.Roomy(string(b))
	list, left := stream.Split(mine, limit)
	if !unchanged() {
		t.Fatalf("%s: what is split is changed", what)
	}
	probe.Scribble(mine)
	if !same(list, s.list) || left != s.waiting {
		t.Fatalf("%s: Split(.., %d) = %s, %d, want %s, %d", what, limit, brief(list), left, brief(s.list), s.waiting)
	}
}

// bytewise is a stream in chunks of so many bytes.
func bytewise(b []byte, size int) [][]byte {
	var chunks [][]byte
	for from := 0; from < len(b); from += size {
		chunks = append(chunks, b[from:min(from+size, len(b))])
	}
	return chunks
}

// cutAt is a stream cut at rising places, with an empty chunk ahead of it, behind it, and wherever a place stands twice.
func cutAt(b []byte, places ...int) [][]byte {
	chunks := [][]byte{nil}
	from := 0
	for _, at := range places {
		chunks = append(chunks, b[from:at])
		from = at
	}
	return append(chunks, b[from:], []byte{})
}

// The slow reader itself tells what the chapter's examples say.
func TestSlowReader(t *testing.T) {
	hi := frame("hi")
	long := join(head(200), make([]byte, 204), hi)
	for name, c := range map[string]struct {
		b []byte
		s stand
	}{
		"nothing":         {nil, stand{}},
		"a frame":         {hi, stand{list: []api.Framed{told("hi", 0)}}},
		"four bytes more": {join(hi, hi[:4]), stand{[]api.Framed{told("hi", 0)}, 4, api.ErrShort}},
		"no mark":         {join(hi, hi, []byte{7}), stand{[]api.Framed{told("hi", 0), told("hi", 11), givenUp(22)}, 0, api.ErrEnd}},
		"too long":        {long[:5], stand{[]api.Framed{tooLong(0)}, 0, api.ErrShort}},
		"passed over":     {long, stand{[]api.Framed{tooLong(0), told("hi", 209)}, 0, api.OK}},
		"spoilt":          {join(other(hi, 10, 1), hi), stand{[]api.Framed{spoilt(0), told("hi", 11)}, 0, api.OK}},
		"no length":       {head(0), stand{[]api.Framed{givenUp(0)}, 0, api.ErrEnd}},
	} {
		if s := slow(c.b, 64); !same(s.list, c.s.list) || s.waiting != c.s.waiting || s.end != c.s.end {
			t.Errorf("%s: %s", name, fmt.Sprint(s))
		}
	}
}
