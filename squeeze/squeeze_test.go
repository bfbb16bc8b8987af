package squeeze_test

import (
	"bytes"
	"math"
	"testing"

	"chronicle/api"
	"chronicle/octet"
	"chronicle/squeeze"
)

// blocks has texts and their blocks, as the chapter tells them.
func blocks() map[string]string {
	return map[string]string{
		"":                                     "\x00",
		"a":                                    "\x01\x02a",
		"abc":                                  "\x03\x06abc",
		"aaaaa":                                "\x05\x0aaaaaa",
		"aaaaaa":                               "\x06\x02a\x0b\x01",
		"abcabcabc":                            "\x09\x06abc\x0d\x03",
		"abcdeXabcdeY":                         "\x0c\x0cabcdeX\x0b\x06\x02Y",
		"abcdeXabcdeYabcdeX":                   "\x12\x0cabcdeX\x0b\x06\x02Y\x0d\x0c",
		string(bytes.Repeat([]byte("a"), 600)): "\xd8\x04\x02a\x85\x04\x01\x85\x04\x01\xa7\x01\x01",
	}
}

// 2.7
func TestEncode(t *testing.T) {
	for text, want := range blocks() {
		if got, e := squeeze.Encode([]byte(text)); e != api.OK || string(got) != want {
			t.Errorf("Encode(%.30q) = %x, %d, want %x", text, got, e, want)
		}
	}
	if got, e := squeeze.Encode(nil); e != api.OK || string(got) != "\x00" {
		t.Errorf("Encode(nil) = %x, %d", got, e)
	}
	for i, text := range texts() {
		want := slowBlock(slowTokens(text))
		if got, e := squeeze.Encode(text); e != api.OK || !bytes.Equal(got, want) {
			t.Errorf("text %d: %d bytes, %d, want %d", i, len(got), e, len(want))
		}
	}
}

func TestEncodeOfLongTexts(t *testing.T) {
	for _, n := range []int{4097, 4098, 1 << 20} {
		if got, e := squeeze.Encode(make([]byte, n)); e != api.ErrLong || len(got) != 0 {
			t.Errorf("%d bytes: %.20x, %d", n, got, e)
		}
	}
	for _, n := range []int{4095, 4096} {
		if got, e := squeeze.Encode(make([]byte, n)); e != api.OK || len(got) == 0 {
			t.Errorf("%d bytes: %.20x, %d", n, got, e)
		}
	}
}

// 2.8
func TestDecodeGivesBack(t *testing.T) {
	for text, block := range blocks() {
		if got, e := squeeze.Decode([]byte(block)); e != api.OK || string(got) != text {
			t.Errorf("Decode(%x) = %.30q, %d, want %.30q", block, got, e, text)
		}
	}
	for i, text := range texts() {
		if got, e := squeeze.Decode(slowBlock(slowTokens(text))); e != api.OK || !bytes.Equal(got, text) {
			t.Errorf("text %d: %.30q, %d, want %.30q", i, got, e, text)
		}
	}
}

func wantNoText(t *testing.T, name string, block []byte) {
	t.Helper()
	if got, e := squeeze.Decode(block); e != api.ErrBlock || len(got) != 0 {
		t.Errorf("%s: Decode(%.20x) = %.30q, %d", name, block, got, e)
	}
}

func TestDecodeRefuses(t *testing.T) {
	wantNoText(t, "nil", nil)
	for name, b := range wrongBlocks() {
		wantNoText(t, name, []byte(b))
	}
}

func TestDecodeRefusesTokensThatAreNotTheTextsOwn(t *testing.T) {
	x := func(n int) string { return string(bytes.Repeat([]byte("x"), n)) }
	for name, ts := range map[string][]api.Token{
		"literals side by side":        {lit("a"), lit("b")},
		"no match where there is one":  {lit("aaaaaa")},
		"a match that begins too late": {lit("aa"), match(1, 5)},
		"a match that ends too soon":   {lit("a"), match(1, 5), lit("a")},
		"a match in two":               {lit("a"), match(1, 5), match(1, 5)},
		"not the least distance":       {lit("aa"), match(2, 5)},
		"a nearer one that is shorter": {lit("abcdeX"), match(6, 5), lit("Y"), match(6, 5), lit("X")},
		"farther, as long":             {lit("abcdeX"), match(6, 5), lit("Y"), match(12, 5), lit("Z")},
		"a long text as one literal":   {lit(x(4096))},
	} {
		b := slowBlock(ts)
		if got, e := squeeze.Read(b); e != api.OK || !sameTokens(got, ts) {
			t.Errorf("%s: Read(%.20x) = %.60v, %d", name, b, got, e)
		}
		wantNoText(t, name, b)
	}
}

func TestDecodeOfDamagedBlocks(t *testing.T) {
	for _, text := range [][]byte{nil, []byte("a"), []byte("abcdeXabcdeYabcdeX"), bytes.Repeat([]byte("a"), 600), records(400), noise(300, 2, 5), noise(200, 256, 6)} {
		damaged(slowBlock(slowTokens(text)), func(b []byte) {
			ts, is := slowRead(b)
			want, _ := slowExpand(ts)
			if !is || !bytes.Equal(slowBlock(slowTokens(want)), b) {
				wantNoText(t, "damaged", b)
			} else if got, e := squeeze.Decode(b); e != api.OK || !bytes.Equal(got, want) {
				t.Errorf("Decode(%x) = %q, %d, want %q", b, got, e, want)
			}
		})
	}
}

func TestDecodeOfCutBlocks(t *testing.T) {
	for _, text := range texts() {
		b := slowBlock(slowTokens(text))
		for n := 0; n < len(b); n += 1 + len(b)/100 {
			wantNoText(t, "cut", b[:n])
		}
	}
}

// 2.9
func TestBound(t *testing.T) {
	for n, want := range map[int]int{
		math.MinInt: 0, -4096: 0, -1: 0,
		0: 1, 1: 3, 2: 4, 63: 65, 64: 67, 127: 130, 128: 132, 4095: 4099, 4096: 4100,
		4097: 0, 1 << 32: 0, 1<<32 + 1: 0, math.MaxInt: 0,
	} {
		if got := squeeze.Bound(n); got != want {
			t.Errorf("Bound(%d) = %d, want %d", n, got, want)
		}
	}
}

func TestBoundIsReached(t *testing.T) {
	text := unique(api.MaxBlock)
	for n := range api.MaxBlock + 1 {
		if b, e := squeeze.Encode(text[:n]); e != api.OK || len(b) != squeeze.Bound(n) {
			t.Fatalf("%d bytes in %d, %d, bound %d", n, len(b), e, squeeze.Bound(n))
		}
		if want := len(octet.Uvarint(uint64(n))) + len(octet.Uvarint(uint64(2*n))) + n; n > 0 && squeeze.Bound(n) != want {
			t.Fatalf("Bound(%d) = %d, want %d", n, squeeze.Bound(n), want)
		}
	}
}

func TestBoundHolds(t *testing.T) {
	hold := func(text []byte) {
		if b, _ := squeeze.Encode(text); len(b) > squeeze.Bound(len(text)) {
			t.Errorf("%.30q: %d bytes in %d", text, len(text), len(b))
		}
	}
	for _, text := range texts() {
		hold(text)
	}
	for dist := 5; dist < 2400; dist += 61 { // matches that are told dearly, alone between literals
		for _, length := range []int{5, 63, 64, 65} {
			text, _ := repeatAt(dist, length)
			hold(text)
		}
	}
}
