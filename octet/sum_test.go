package octet_test

import (
	"bytes"
	"math"
	"testing"

	"chronicle/octet"
	"chronicle/probe"
)

// slowExtend goes through b bit by bit, as the chapter tells it.
func slowExtend(sum uint32, b []byte) uint32 {
	register := ^sum
	for _, c := range b {
		for bit := range 8 {
			unlike := register&1 != uint32(c>>bit)&1
			register >>= 1
			if unlike {
				register ^= 0x82F63B78
			}
		}
	}
	return ^register
}

// slowJoin does M as often as it is told.
func slowJoin(a, b uint32, n int) uint32 {
	for range 8 * max(n, 0) {
		odd := a&1 == 1
		a >>= 1
		if odd {
			a ^= 0x82F63B78
		}
	}
	return a ^ b
}

func starts() []uint32 {
	list := []uint32{0, 1, 2, 255, 256, 1 << 31, 0x82F63B78, math.MaxUint32, math.MaxUint32 - 1}
	for _, x := range probe.Noise(1, 20) {
		list = append(list, uint32(x))
	}
	return list
}

// 1.4
func TestSum(t *testing.T) {
	for _, c := range []struct {
		s    string
		want uint32
	}{{"", 0}, {"a", 0xC1D04330}, {"abc", 0x364B3FB7}, {"123456789", 0xE3069283}} {
		if got := octet.Sum([]byte(c.s)); got != c.want {
			t.Errorf("Sum(%q) = %08X, want %08X", c.s, got, c.want)
		}
	}
	if octet.Sum(nil) != 0 {
		t.Error("Sum(nil)")
	}
	for i := range 256 {
		b := []byte{byte(i)}
		if got := octet.Sum(b); got != slowExtend(0, b) {
			t.Errorf("Sum(%x) = %08X", b, got)
		}
	}
	b := []byte(probe.Text(1, 300))
	for n := range b {
		if got := octet.Sum(b[:n]); got != slowExtend(0, b[:n]) {
			t.Errorf("Sum of %d bytes = %08X, want %08X", n, got, slowExtend(0, b[:n]))
		}
	}
}

func TestSumTellsShortDamage(t *testing.T) {
	b := []byte(probe.Text(1, 40))
	want := octet.Sum(b)
	for at := range len(b) - 4 {
		for _, x := range starts() {
			c := bytes.Clone(b)
			for i := range 4 {
				c[at+i] ^= byte(x >> (8 * i))
			}
			if (octet.Sum(c) == want) != (x == 0) {
				t.Errorf("damage %08X at %d: the sum stays, or changes for nothing", x, at)
			}
		}
	}
}

// 1.5
func TestExtend(t *testing.T) {
	if got := octet.Extend(0xC1D04330, []byte("bc")); got != 0x364B3FB7 {
		t.Errorf("Extend(a, bc) = %08X", got)
	}
	b := []byte(probe.Text(1, 70))
	for _, sum := range starts() {
		if octet.Extend(sum, nil) != sum {
			t.Errorf("Extend(%08X, nil) changes it", sum)
		}
		for n := range b {
			if got := octet.Extend(sum, b[:n]); got != slowExtend(sum, b[:n]) {
				t.Errorf("Extend(%08X, %d bytes) = %08X", sum, n, got)
			}
		}
	}
	for n := range b {
		if octet.Extend(octet.Sum(b[:n]), b[n:]) != octet.Sum(b) {
			t.Errorf("cut at %d: not the sum of the whole", n)
		}
	}
}

// 1.6
func TestJoin(t *testing.T) {
	for _, a := range starts() {
		for _, n := range []int{math.MinInt, -7, -1, 0, 1, 2, 3, 4, 5, 8, 31, 100, 1000} {
			if got := octet.Join(a, 0x12345678, n); got != slowJoin(a, 0x12345678, n) {
				t.Errorf("Join(%08X, 12345678, %d) = %08X, want %08X", a, n, got, slowJoin(a, 0x12345678, n))
			}
		}
	}
	b := []byte(probe.Text(1, 90))
	for n := range len(b) + 1 {
		if octet.Join(octet.Sum(b[:n]), octet.Sum(b[n:]), len(b)-n) != octet.Sum(b) {
			t.Errorf("cut at %d: not the sum of the whole", n)
		}
	}
}

func TestJoinOfGreatLengths(t *testing.T) {
	// The polynomial is x + 1 times a primitive one of the degree 31: so M done 2^31 - 1 times changes nothing, and of a length only the rest counts.
	const round = 1<<31 - 1
	for _, a := range starts() {
		for _, n := range []int{round, 2 * round, round + 5, 1 << 32, 1 << 62, math.MaxInt - 1, math.MaxInt} {
			if got, want := octet.Join(a, 9, n), slowJoin(a, 9, n%round); got != want {
				t.Errorf("Join(%08X, 9, %d) = %08X, want %08X", a, n, got, want)
			}
		}
	}
}

func TestJoinIsAssociative(t *testing.T) {
	list := starts()
	for i, a := range list {
		b, c := list[(i+3)%len(list)], list[(i+7)%len(list)]
		for _, m := range []int{0, 1, 77, 1 << 20, 1 << 61} {
			for _, n := range []int{0, 1, 13, 1 << 33, 1 << 61} {
				if octet.Join(octet.Join(a, b, m), c, n) != octet.Join(a, octet.Join(b, c, n), m+n) {
					t.Errorf("Join of %08X, %08X, %08X with %d, %d", a, b, c, m, n)
				}
			}
		}
	}
}

// 1.7
func TestPatch(t *testing.T) {
	b := []byte(probe.Text(1, 50))
	for _, want := range starts() {
		for n := range b {
			p := octet.Patch(b[:n], want)
			if len(p) != 4 || slowExtend(0, append(bytes.Clone(b[:n]), p...)) != want {
				t.Errorf("Patch(%d bytes, %08X) = %x", n, want, p)
			}
		}
	}
	for _, x := range starts() {
		four := []byte{byte(x >> 24), byte(x >> 16), byte(x >> 8), byte(x)}
		if got := octet.Patch(b, octet.Sum(append(bytes.Clone(b), four...))); !bytes.Equal(got, four) {
			t.Errorf("Patch = %x, want just %x", got, four)
		}
	}
	if p := octet.Patch(nil, 0); len(p) != 4 || octet.Sum(p) != 0 {
		t.Errorf("Patch(nil, 0) = %x", p)
	}
}
