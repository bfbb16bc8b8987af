package hint_test

import (
	"bytes"
	"encoding/binary"
	"encoding/hex"
	"fmt"
	"math"
	"slices"
	"strings"
	"testing"

	"chronicle/api"
	"chronicle/hint"
	"chronicle/probe"
)

// example is the hint of the chapter's second example.
func example() api.Hint {
	return api.Hint{Seg: 7, Size: 69, Entries: []api.HintEntry{{Key: "k", Off: 6, Time: 301, Dead: true, Pos: 37, Len: 15}}}
}

// samples is right hints: without entries, with one, with many.
func samples() []api.Hint {
	list := []api.Hint{{Size: 38}, {Seg: lastId, Size: 65536}, example(), fewHint(), full(9)}
	for _, c := range edges() {
		if c.right {
			list = append(list, c.h)
		}
	}
	return list
}

// 6.2: the bytes, written out by hand.
func TestBytesOfHints(t *testing.T) {
	three := api.Hint{Seg: 300, Size: 1000, Entries: []api.HintEntry{
		{Key: "\xff\x00", Off: 0, Time: 0, Pos: 21, Len: 14},
		{Key: "k", Off: 200, Time: 128, Dead: true, Pos: 35, Len: 64},
		{Key: "last", Off: 201, Time: 127, Pos: 299, Len: 65},
	}}
	for _, c := range []struct {
		h    api.Hint
		body string
	}{
		{example(), "07450107ad02101f016b"},
		{api.Hint{Seg: 0, Size: 38}, "002600"},
		{api.Hint{Seg: lastId, Size: 65536}, "ffffffff0380800400"},
		{three, "ac02e80703" + "0100001c02ff00" + "c801800100" + "8101" + "016b" + "017fc801" + "8201" + "046c617374"},
	} {
		body, _ := hex.DecodeString(c.body)
		wantBytes(t, c.body, c.h, fileOf(body))
		b, _ := hint.Encode(c.h)
		n := []byte{0, 0, 0, byte(len(body))}
		sum := castagnoli(append(slices.Clone(n), body...))
		if len(b) != 9+len(body) || b[0] != 0xb1 || !bytes.Equal(b[1:5], n) || binary.BigEndian.Uint32(b[5:9]) != sum || !bytes.Equal(b[9:], body) {
			t.Errorf("%s: %x", c.body, b)
		}
	}
	b, _ := hint.Encode(example())
	want(t, "bytes of the example", len(b), 19)
}

// 6.3
func TestDecodeGivesBack(t *testing.T) {
	for _, h := range samples() {
		wantBytes(t, "a right hint", h, slowEncode(h))
	}
}

// Nil and empty are the same to Encode.
func TestEmptyEntries(t *testing.T) {
	wantBytes(t, "an empty list", api.Hint{Size: 38, Entries: []api.HintEntry{}}, slowEncode(api.Hint{Size: 38}))
}

func TestDecodeOfMoreAndLess(t *testing.T) {
	wantNone(t, "no bytes", []byte{})
	wantNone(t, "nil", nil)
	for _, h := range samples() {
		b := slowEncode(h)
		for n := range min(len(b), 600) {
			wantNone(t, "a first part", b[:n])
		}
		wantNone(t, "one byte less", b[:len(b)-1])
		wantNone(t, "without the first byte", b[1:])
		wantNone(t, "another byte ahead", append([]byte{0xb1}, b...))
		for _, behind := range []string{"\x00", "\x01", "\xb1", string(b)} {
			wantNone(t, "more behind", append(slices.Clone(b), behind...))
		}
	}
}

// The same under right lengths and sums: of the body there is more or less.
func TestDecodeOfBodiesOfMoreAndLess(t *testing.T) {
	wantNone(t, "no body", fileOf(nil))
	for _, h := range samples() {
		body := slowBody(h)
		for n := range min(len(body), 600) {
			wantNone(t, "a first part", fileOf(body[:n]))
		}
		for _, behind := range []string{"\x00", "\x01", string(body)} {
			wantNone(t, "more behind", fileOf(append(slices.Clone(body), behind...)))
		}
	}
}

func TestDecodeWantsTheMark(t *testing.T) {
	for _, h := range []api.Hint{{Size: 38}, example(), fewHint()} {
		body := slowBody(h)
		for c := range 256 {
			if c != 0xb1 {
				wantNone(t, "another mark", framed(byte(c), uint32(len(body)), body))
			}
		}
	}
}

// Another length, with the sum that goes with it.
func TestDecodeWantsTheLength(t *testing.T) {
	for _, h := range []api.Hint{{Size: 38}, example(), fewHint()} {
		body := slowBody(h)
		n := uint32(len(body))
		for _, length := range []uint32{0, 1, n - 1, n + 1, n + 9, n << 8, n | 1<<8, n | 1<<16, n | 1<<24, n | 1<<31, math.MaxUint32} {
			wantNone(t, fmt.Sprint("the length ", length), framed(0xb1, length, body))
			wantNone(t, fmt.Sprint("the length ", length, " and more bytes"), framed(0xb1, length, append(slices.Clone(body), make([]byte, 20)...)))
		}
	}
}

// What the sum is of: the length and the body, all of them and nothing else.
func TestDecodeWantsTheSum(t *testing.T) {
	for _, h := range []api.Hint{{Size: 38}, example(), fewHint()} {
		b := slowEncode(h)
		with := func(sum uint32) []byte {
			return slices.Concat(b[:5], binary.BigEndian.AppendUint32(nil, sum), b[9:])
		}
		right := binary.BigEndian.Uint32(b[5:9])
		for what, sum := range map[string]uint32{
			"no sum":                    0,
			"all bits turned":           ^right,
			"one more":                  right + 1,
			"the body's alone":          castagnoli(b[9:]),
			"with the mark":             castagnoli(slices.Concat(b[:5], b[9:])),
			"the length's alone":        castagnoli(b[1:5]),
			"without the last byte":     castagnoli(slices.Concat(b[1:5], b[9:len(b)-1])),
			"the lowest of bytes ahead": right<<24 | right>>8&0xff<<16 | right>>16&0xff<<8 | right>>24,
		} {
			wantNone(t, what, with(sum))
		}
		if got, e := hint.Decode(with(right)); e != api.OK || !sameHint(got, h) {
			t.Errorf("the right sum: %s, %d", brief(got), e)
		}
	}
}

// long is a number with needless groups behind it.
func long(n uint64, needless int) []byte {
	b := numbered(n)
	for range needless {
		b[len(b)-1] |= 128
		b = append(b, 0)
	}
	return b
}

// forged is bodies that no right hint has, each by what is wrong with it.
func forged() map[string][]byte {
	const top = uint64(math.MaxUint64)
	above := []byte("\xff\xff\xff\xff\xff\xff\xff\xff\xff\x02")
	list := map[string][]byte{
		"another number of entries, less":   numbered(7, 69, 0, 7, 301, 16, 31, "k"),
		"another number of entries, more":   numbered(7, 69, 2, 7, 301, 16, 31, "k"),
		"more entries than bytes":           numbered(7, 69, 200, 7, 301, 16, 31, "k"),
		"2^32 + 1 entries":                  numbered(7, 69, 1<<32+1, 7, 301, 16, 31, "k"),
		"2^62 entries":                      numbered(7, 69, uint64(1<<62), 7, 301, 16, 31, "k"),
		"2^63 entries":                      numbered(7, 69, uint64(1<<63), 7, 301, 16, 31, "k"),
		"2^63 + 1 entries":                  numbered(7, 69, uint64(1<<63+1), 7, 301, 16, 31, "k"),
		"2^64 - 1 entries":                  numbered(7, 69, top, 7, 301, 16, 31, "k"),
		"2^64 - 1 entries and none":         numbered(7, 69, top),
		"4679 entries and none":             numbered(7, 65536, 4679),
		"Seg 2^30":                          numbered(uint64(1<<30), 69, 1, 7, 301, 16, 31, "k"),
		"Seg 2^32 + 7":                      numbered(uint64(1<<32+7), 69, 1, 7, 301, 16, 31, "k"),
		"Seg 2^63 + 7":                      numbered(uint64(1<<63+7), 69, 1, 7, 301, 16, 31, "k"),
		"Seg 2^64 - 1":                      numbered(top, 69, 1, 7, 301, 16, 31, "k"),
		"Size 68":                           numbered(7, 68, 1, 7, 301, 16, 31, "k"),
		"Size 65537":                        numbered(7, 65537, 1, 7, 301, 16, 31, "k"),
		"Size 2^32 + 69":                    numbered(7, uint64(1<<32+69), 1, 7, 301, 16, 31, "k"),
		"Size 2^63 + 69":                    numbered(7, uint64(1<<63+69), 1, 7, 301, 16, 31, "k"),
		"Size 2^64 - 1":                     numbered(7, top, 1, 7, 301, 16, 31, "k"),
		"Off -1":                            numbered(7, 69, 1, 0, 301, 16, 31, "k"),
		"Off 2^40":                          numbered(7, 69, 1, 1<<40+1, 301, 16, 31, "k"),
		"Off 2^63 - 1":                      numbered(7, 69, 1, uint64(1<<63), 301, 16, 31, "k"),
		"Off 2^64 - 2":                      numbered(7, 69, 1, top, 301, 16, 31, "k"),
		"Time 2^50":                         numbered(7, 69, 1, 7, 1<<50, 16, 31, "k"),
		"Time 2^63":                         numbered(7, 69, 1, 7, uint64(1<<63), 16, 31, "k"),
		"Time 2^64 - 1":                     numbered(7, 69, 1, 7, top, 16, 31, "k"),
		"Pos one more":                      numbered(7, 69, 1, 7, 301, 17, 31, "k"),
		"Pos 2^32 more":                     numbered(7, 69, 1, 7, 301, uint64(1<<32+16), 31, "k"),
		"Pos below the head's end":          numbered(7, 69, 1, 7, 301, top, 31, "k"),
		"Pos far below":                     numbered(7, 69, 1, 7, 301, uint64(1<<63), 31, "k"),
		"Pos as great as can be":            numbered(7, 69, 1, 7, 301, uint64(math.MaxInt64-21), 31, "k"),
		"Pos above that":                    numbered(7, 69, 1, 7, 301, uint64(math.MaxInt64-20), 31, "k"),
		"Len 13":                            numbered(7, 69, 1, 7, 301, 16, 26, "k"),
		"Len 13, dead":                      numbered(7, 69, 1, 7, 301, 16, 27, "k"),
		"Len 0":                             numbered(7, 69, 1, 7, 301, 16, 0, "k"),
		"Len 16":                            numbered(7, 69, 1, 7, 301, 16, 32, "k"),
		"Len 1125":                          numbered(7, 65536, 1, 7, 301, 16, 2250, "k"),
		"Len 2^32 + 15":                     numbered(7, 69, 1, 7, 301, 16, uint64(1<<33+31), "k"),
		"Len 2^63 - 1":                      numbered(7, 69, 1, 7, 301, 16, top, "k"),
		"Len 2^62 + 15":                     numbered(7, 69, 1, 7, 301, 16, uint64(1<<63+31), "k"),
		"no key":                            numbered(7, 69, 1, 7, 301, 16, 31, ""),
		"a key of 65":                       numbered(7, 69, 1, 7, 301, 16, 31, strings.Repeat("k", 65)),
		"a key of 300":                      numbered(7, 69, 1, 7, 301, 16, 31, strings.Repeat("k", 300)),
		"a key that is not all there":       numbered(7, 69, 1, 7, 301, 16, 31, 2, []byte("k")),
		"a key of 2^64 - 1":                 numbered(7, 69, 1, 7, 301, 16, 31, top, []byte("k")),
		"a key without its length":          numbered(7, 69, 1, 7, 301, 16, 31, []byte("k")),
		"Seg above 64 bits":                 numbered(above, 69, 1, 7, 301, 16, 31, "k"),
		"Size above 64 bits":                numbered(7, above, 1, 7, 301, 16, 31, "k"),
		"a number of entries above 64 bits": numbered(7, 69, above, 7, 301, 16, 31, "k"),
		"Off above 64 bits":                 numbered(7, 69, 1, above, 301, 16, 31, "k"),
		"Time above 64 bits":                numbered(7, 69, 1, 7, above, 16, 31, "k"),
		"Pos above 64 bits":                 numbered(7, 69, 1, 7, 301, above, 31, "k"),
		"Len above 64 bits":                 numbered(7, 69, 1, 7, 301, 16, above, "k"),
		"the same offset once more":         numbered(7, 99, 2, 7, 301, 0, 31, "k", 0, 301, 0, 31, "l"),
		"an offset that wraps round":        numbered(7, 99, 2, 7, 301, 0, 31, "k", top, 301, 0, 31, "l"),
		"an offset that wraps to 2^40":      numbered(7, 99, 2, 7, 301, 0, 31, "k", 1<<40-6, 301, 0, 31, "l"),
		"a place that wraps round":          numbered(7, 99, 2, 7, 301, 0, 31, "k", 1, 301, top, 31, "l"),
		"a place that wraps to the head":    numbered(7, 99, 2, 7, 301, 0, 31, "k", 1, 301, top-14, 31, "l"),
		"a key twice":                       numbered(7, 99, 2, 7, 301, 0, 31, "k", 1, 301, 0, 31, "k"),
		"a key twice, apart":                numbered(7, 99, 3, 7, 301, 0, 30, "k", 1, 301, 0, 30, "l", 1, 301, 0, 30, "k"),
	}
	for needless := 1; needless < 9; needless++ {
		list[fmt.Sprint("a long Seg, ", needless)] = numbered(long(7, needless), 69, 1, 7, 301, 16, 31, "k")
		list[fmt.Sprint("a long Size, ", needless)] = numbered(7, long(69, needless), 1, 7, 301, 16, 31, "k")
		list[fmt.Sprint("a long number of entries, ", needless)] = numbered(7, 69, long(1, needless), 7, 301, 16, 31, "k")
		list[fmt.Sprint("a long number of no entries, ", needless)] = numbered(7, 69, long(0, needless))
		list[fmt.Sprint("a long Off, ", needless)] = numbered(7, 69, 1, long(7, needless), 301, 16, 31, "k")
		list[fmt.Sprint("a long Time, ", needless)] = numbered(7, 69, 1, 7, long(301, needless), 16, 31, "k")
		list[fmt.Sprint("a long Pos, ", needless)] = numbered(7, 69, 1, 7, 301, long(16, needless), 31, "k")
		list[fmt.Sprint("a long Len, ", needless)] = numbered(7, 69, 1, 7, 301, 16, long(31, needless), "k")
		list[fmt.Sprint("a key's long length, ", needless)] = numbered(7, 69, 1, 7, 301, 16, 31, long(1, needless), []byte("k"))
	}
	return list
}

func TestDecodeOfForgedBodies(t *testing.T) {
	wantBytes(t, "the example, by its parts", example(), fileOf(numbered(7, 69, 1, 7, 301, 16, 31, "k")))
	for what, body := range forged() {
		wantNone(t, what, fileOf(body))
		wantNone(t, what+", more behind", fileOf(append(body, make([]byte, 200)...)))
	}
}

// slowDecode reads a body number by number, and tells whether it is a right hint's.
func slowDecode(body []byte) (api.Hint, bool) {
	ok := true
	number := func() uint64 {
		v, n := binary.Uvarint(body)
		if n <= 0 || n != len(numbered(v)) {
			ok, body = false, nil
			return 0
		}
		body = body[n:]
		return v
	}
	h := api.Hint{Seg: int(number()), Size: int(number())}
	off, end := int64(-1), 21
	for n := number(); ok && n > 0; n-- {
		e := api.HintEntry{Off: off + int64(number()), Time: int64(number()), Pos: end + int(number())}
		twice := number()
		e.Len, e.Dead = int(twice>>1), twice&1 == 1
		size := number()
		if ok = ok && size <= uint64(len(body)); !ok {
			break
		}
		e.Key, body = string(body[:size]), body[size:]
		h.Entries = append(h.Entries, e)
		if ok = e.Off > off && e.Pos >= end && e.Pos < 1<<17 && e.Len < 1<<17; !ok { // no more than this may wrap round
			break
		}
		off, end = e.Off, e.Pos+e.Len
	}
	return h, ok && len(body) == 0 && slowRight(h)
}

// wantAsSlow fails unless a body is taken just if the slow version takes it, and tells whether it was.
func wantAsSlow(t *testing.T, what string, body []byte) bool {
	t.Helper()
	h, ok := slowDecode(body)
	if !ok {
		wantNone(t, what, fileOf(body))
		return false
	}
	wantBytes(t, what, h, fileOf(body))
	return true
}

// Whatever body is taken is the body of what it is taken for: one text for one thing.
func TestDecodeTakesOneForm(t *testing.T) {
	taken, refused := 0, 0
	for _, h := range []api.Hint{{Size: 38}, {Seg: lastId, Size: 65536}, example(), fewHint(), full(3)} {
		body := slowBody(h)
		for at := range body {
			for c := range 256 {
				forgery := bytes.Clone(body)
				forgery[at] = byte(c)
				if wantAsSlow(t, fmt.Sprint("the byte ", c, " at ", at), forgery) {
					taken++
				} else {
					refused++
				}
			}
		}
	}
	if taken < 5000 || refused < 5000 {
		t.Errorf("%d were taken, %d refused", taken, refused)
	}
}

// Numbers that are small and texts that are short make right bodies now and then.
func TestDecodeOfAnyBodies(t *testing.T) {
	taken := 0
	for seed := range uint64(30000) {
		body := numbered(3, 200, int(seed%3))
		for _, x := range probe.Noise(seed, int(seed%3)) {
			body = append(body, numbered(int(x>>8%20), int(x>>16%300), int(x>>28%30), int(20+x>>36%90), "abc"[:x>>44%4])...)
		}
		if wantAsSlow(t, fmt.Sprint("seed ", seed), body) {
			taken++
		}
	}
	if taken < 5000 || taken > 25000 {
		t.Errorf("%d were taken", taken)
	}
	for seed := range uint64(3000) {
		text := []byte(probe.Text(seed, int(seed%60)))
		wantAsSlow(t, "any bytes", text)
		wantNone(t, "any bytes", text)
	}
}

// 6.11
func TestDecodeTellsShortDamage(t *testing.T) {
	noise := probe.Noise(5, 80)
	for _, h := range []api.Hint{{Size: 38}, {Seg: lastId, Size: 65536}, example(), fewHint(), full(12)} {
		b := slowEncode(h)
		for i, x := range noise {
			size := 1 + i%4
			for at := 0; at+size <= len(b); at++ {
				if at < 9 && at+size > 9 {
					continue
				}
				c := bytes.Clone(b)
				for k := range size {
					c[at+k] ^= byte(x>>(8*k)) | 1
				}
				wantNone(t, fmt.Sprint(size, " other bytes at ", at), c)
			}
		}
	}
}

// Each other byte in the place of each.
func TestDecodeTellsEachOtherByte(t *testing.T) {
	for _, h := range []api.Hint{{Size: 38}, example(), fewHint()} {
		b := slowEncode(h)
		for at := range b {
			for x := 1; x < 256; x++ {
				c := bytes.Clone(b)
				c[at] ^= byte(x)
				wantNone(t, fmt.Sprint("another byte at ", at), c)
			}
		}
	}
}

// In the body another number that is right too: the sum alone tells it.
func TestDecodeTellsOtherRightBodies(t *testing.T) {
	b := slowEncode(example())
	for at, c := range map[int]byte{9: 8, 10: 0x46, 12: 8, 13: 0xae, 15: 0x0f, 16: 0x1e, 18: 'l'} {
		other := bytes.Clone(b)
		other[at] = c
		if _, ok := slowDecode(other[9:]); !ok {
			t.Fatalf("the byte %x at %d makes it wrong", c, at)
		}
		wantNone(t, fmt.Sprint("another byte at ", at), other)
	}
}
