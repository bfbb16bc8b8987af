package octet_test

import (
	"bytes"
	"math"
	"testing"

	"chronicle/api"
	"chronicle/octet"
	"chronicle/probe"
)

// edges has, for each length of a short number, its least and its greatest one, and some in between.
func edges() []uint64 {
	list := []uint64{0, 1, 2, 5, 255, 256, 300, math.MaxUint32, math.MaxUint64, math.MaxUint64 - 1}
	for bits := 7; bits < 64; bits += 7 {
		list = append(list, 1<<bits-1, 1<<bits, 1<<bits+1)
	}
	return list
}

// groups writes the short number of v as the chapter tells it: with quotients and rests.
func groups(v uint64) []byte {
	var b []byte
	for {
		if v < 128 {
			return append(b, byte(v))
		}
		b = append(b, byte(v%128+128))
		v /= 128
	}
}

// 1.1
func TestUvarint(t *testing.T) {
	for _, c := range []struct {
		v    uint64
		want []byte
	}{
		{0, []byte{0}},
		{1, []byte{1}},
		{127, []byte{0x7f}},
		{128, []byte{0x80, 1}},
		{300, []byte{0xac, 2}},
		{1<<63 - 1, []byte{255, 255, 255, 255, 255, 255, 255, 255, 127}},
		{1 << 63, []byte{128, 128, 128, 128, 128, 128, 128, 128, 128, 1}},
		{math.MaxUint64, []byte{255, 255, 255, 255, 255, 255, 255, 255, 255, 1}},
	} {
		if got := octet.Uvarint(c.v); !bytes.Equal(got, c.want) {
			t.Errorf("Uvarint(%d) = %x, want %x", c.v, got, c.want)
		}
	}
	for _, v := range append(edges(), probe.Noise(1, 500)...) {
		v >>= v % 60
		if got := octet.Uvarint(v); !bytes.Equal(got, groups(v)) {
			t.Errorf("Uvarint(%d) = %x, want %x", v, got, groups(v))
		}
	}
}

func TestUvarintLengthsRise(t *testing.T) {
	for bits := range 64 {
		below, above := octet.Uvarint(1<<bits-1), octet.Uvarint(1<<bits)
		if want := bits/7 + 1; len(above) != want || len(below) > len(above) {
			t.Errorf("lengths around 2^%d: %d, %d, want %d", bits, len(below), len(above), want)
		}
	}
}

// 1.2
func TestReadUvarintReadsBack(t *testing.T) {
	for _, v := range append(edges(), probe.Noise(1, 500)...) {
		b := octet.Uvarint(v)
		for _, tail := range [][]byte{nil, {0}, {1}, {0x80}, {255, 255}} {
			got, n, e := octet.ReadUvarint(append(bytes.Clone(b), tail...))
			if got != v || n != len(b) || e != api.OK {
				t.Errorf("ReadUvarint(%x %x) = %d, %d, %d", b, tail, got, n, e)
			}
		}
		for n := range len(b) {
			wantNoNumber(t, b[:n], api.ErrShort)
		}
	}
}

func wantNoNumber(t *testing.T, b []byte, want api.Errno) {
	t.Helper()
	if v, n, e := octet.ReadUvarint(b); v != 0 || n != 0 || e != want {
		t.Errorf("ReadUvarint(%x) = %d, %d, %d, want 0, 0, %d", b, v, n, e, want)
	}
}

func TestReadUvarintShort(t *testing.T) {
	wantNoNumber(t, nil, api.ErrShort)
	wantNoNumber(t, []byte{}, api.ErrShort)
	for n := 1; n <= 9; n++ {
		wantNoNumber(t, bytes.Repeat([]byte{0x80}, n), api.ErrShort)
		wantNoNumber(t, bytes.Repeat([]byte{0xff}, n), api.ErrShort)
	}
}

func TestReadUvarintNeedlessGroup(t *testing.T) {
	for n := 1; n <= 9; n++ {
		wantNoNumber(t, append(bytes.Repeat([]byte{0x80}, n), 0), api.ErrVarint)
		wantNoNumber(t, append(bytes.Repeat([]byte{0xff}, n), 0), api.ErrVarint)
		wantNoNumber(t, append(bytes.Repeat([]byte{0x80}, n), 0, 1), api.ErrVarint)
	}
}

func TestReadUvarintAbove64Bits(t *testing.T) {
	for last := range 256 {
		for _, c := range []byte{0x80, 0xff} {
			b := append(bytes.Repeat([]byte{c}, 9), byte(last))
			if last == 1 {
				if _, n, e := octet.ReadUvarint(b); n != 10 || e != api.OK {
					t.Errorf("ReadUvarint(%x) = %d, %d", b, n, e)
				}
				continue
			}
			wantNoNumber(t, b, api.ErrVarint)
			wantNoNumber(t, append(b, 1), api.ErrVarint)
		}
	}
}

// What is no short number of at most three bytes is told apart from what is, by asking for each row of bytes whether it is one.
func TestReadUvarintTakesOneForm(t *testing.T) {
	for x := range 1 << 16 {
		b := []byte{byte(x), byte(x >> 8)}
		v, n, e := octet.ReadUvarint(b)
		switch {
		case e == api.OK && !bytes.Equal(octet.Uvarint(v), b[:n]):
			t.Fatalf("ReadUvarint(%x) = %d, %d: not its form", b, v, n)
		case e == api.ErrShort && (b[0] < 128 || b[1] < 128):
			t.Fatalf("ReadUvarint(%x): ErrShort", b)
		case e == api.ErrVarint && (b[0] < 128 || b[1] != 0):
			t.Fatalf("ReadUvarint(%x): ErrVarint", b)
		}
	}
}

// 1.3
func TestZigzag(t *testing.T) {
	for _, c := range []struct {
		v int64
		u uint64
	}{
		{0, 0}, {-1, 1}, {1, 2}, {-2, 3}, {2, 4}, {-3, 5}, {150, 300}, {-150, 299},
		{math.MaxInt64, math.MaxUint64 - 1}, {math.MinInt64, math.MaxUint64}, {math.MinInt64 + 1, math.MaxUint64 - 2},
	} {
		if got := octet.Zigzag(c.v); got != c.u {
			t.Errorf("Zigzag(%d) = %d, want %d", c.v, got, c.u)
		}
		if got := octet.Unzigzag(c.u); got != c.v {
			t.Errorf("Unzigzag(%d) = %d, want %d", c.u, got, c.v)
		}
	}
	for _, u := range append(edges(), probe.Noise(1, 500)...) {
		want := int64(u / 2)
		if u%2 == 1 {
			want = -want - 1
		}
		if got := octet.Unzigzag(u); got != want || octet.Zigzag(got) != u {
			t.Errorf("Unzigzag(%d) = %d, want %d; back: %d", u, got, want, octet.Zigzag(got))
		}
	}
}
