package manifest_test

import (
	"bytes"
	"encoding/binary"
	"encoding/hex"
	"fmt"
	"math"
	"slices"
	"strings"
	"testing"

	"chronicle/api"
	"chronicle/manifest"
	"chronicle/probe"
)

// 7.3: the bytes, written out by hand.
func TestBytesOfManifests(t *testing.T) {
	for _, c := range []struct {
		m    api.Manifest
		body string
	}{
		{small(), "030300000002010200"},
		{api.Manifest{NextSeg: 2, Segs: []int{1}}, "0002000000010100"},
		{rich(), "03" + "8407" + "e807" + "ac02" + "f0a204" + "04" + "05" + "8307" + "02" + "ac02" + "03" + "0101e707" + "028101" + "8001" + "8080400700"},
		{api.Manifest{Id: lastId, NextSeg: lastId + 1, Next: lastOffset + 1, Mark: lastOffset, Clock: lastTime, Segs: []int{lastId}, Prods: []api.Prod{{Pid: lastPid, Seq: lastSeq, Off: lastOffset}}},
			"ffffffff03" + "8080808004" + "808080808020" + "ffffffffff1f" + "ffffffffffffff01" + "01" + "ffffffff03" + "01" + "ffffffff0f" + "ffffffffff1f" + "ffffffffff1f"},
	} {
		body, _ := hex.DecodeString(c.body)
		wantBytes(t, c.body, c.m, manifestOf(body))
		wantFrame(t, c.body, 0xb3, manifestOf(body), body)
	}
}

func TestBytesOfCatalogues(t *testing.T) {
	for _, c := range []struct {
		c    api.Catalogue
		body string
	}{
		{api.Catalogue{NextId: 1}, "0100"},
		{pair(), "0902" + "080161800200" + "0203612d31ac0205"},
		{api.Catalogue{NextId: lastId + 1, Topics: []api.TopicEntry{{Id: lastId, Name: strings.Repeat("z", 24), Limit: 65536, Horizon: 1 << 40}}},
			"8080808004" + "01" + "ffffffff03" + "18" + strings.Repeat("7a", 24) + "808004" + "808080808020"},
	} {
		body, _ := hex.DecodeString(c.body)
		wantBytesOf(t, c.body, c.c, catalogueOf(body))
		wantFrame(t, c.body, 0xb7, catalogueOf(body), body)
	}
}

// wantFrame fails unless what the tests hold bytes against is as the chapter tells it.
func wantFrame(t *testing.T, what string, mark byte, b, body []byte) {
	t.Helper()
	n := []byte{0, 0, 0, byte(len(body))}
	sum := castagnoli(append(slices.Clone(n), body...))
	if len(b) != 9+len(body) || b[0] != mark || !bytes.Equal(b[1:5], n) || binary.BigEndian.Uint32(b[5:9]) != sum || !bytes.Equal(b[9:], body) {
		t.Errorf("%s: %x", what, b)
	}
}

// Lengths that take more than one byte.
func TestLongBodies(t *testing.T) {
	b, e := manifest.Encode(greatest())
	if e != api.OK || string(b[:5]) != "\xb3\x00\x00\x05\xa0" || len(b) != 9+0x5a0 {
		t.Errorf("%x, %d bytes, %d", b[:min(len(b), 9)], len(b), e)
	}
	b, e = manifest.EncodeCatalogue(whole())
	if e != api.OK || string(b[:5]) != "\xb7\x00\x00\x02\x76" || len(b) != 9+0x276 {
		t.Errorf("%x, %d bytes, %d", b[:min(len(b), 9)], len(b), e)
	}
	if len(slowEncode(greatest())) > api.Reserve {
		t.Error("no room in what is reserved")
	}
}

// Nil and empty are the same to Encode.
func TestEmptyLists(t *testing.T) {
	m := small()
	m.Prods = []api.Prod{}
	wantBytes(t, "no producers", m, slowEncode(small()))
	m.Segs = []int{}
	wantWrong(t, "no segments", m)
	wantBytesOf(t, "no topics", api.Catalogue{NextId: 5, Topics: []api.TopicEntry{}}, slowEncodeCatalogue(api.Catalogue{NextId: 5}))
}

func TestDecodeOfMoreAndLess(t *testing.T) {
	wantNeither(t, "no bytes", []byte{})
	wantNeither(t, "nil", nil)
	for _, b := range right() {
		for n := range b {
			wantNeither(t, "a first part", b[:n])
		}
		wantNeither(t, "without the first byte", b[1:])
		for _, ahead := range []byte{0, 0xb3, 0xb7} {
			wantNeither(t, "another byte ahead", append([]byte{ahead}, b...))
		}
		for _, behind := range []string{"\x00", "\x01", "\xb3", "\xb7", string(b)} {
			wantNeither(t, "more behind", append(slices.Clone(b), behind...))
		}
	}
}

// The same under right lengths and sums: of the body there is more or less.
func TestDecodeOfBodiesOfMoreAndLess(t *testing.T) {
	for _, b := range right() {
		mark, body := b[0], b[9:]
		for n := range body {
			wantNeither(t, "a first part", framed(mark, uint32(n), body[:n]))
		}
		for _, behind := range []string{"\x00", "\x01", string(body)} {
			wantNeither(t, "more behind", framed(mark, uint32(len(body)+len(behind)), append(slices.Clone(body), behind...)))
		}
	}
}

// The other kind's mark is as wrong as any other one.
func TestDecodeWantsTheMark(t *testing.T) {
	for _, b := range right() {
		for c := range 256 {
			if byte(c) != b[0] {
				wantNeither(t, "another mark", append([]byte{byte(c)}, b[1:]...))
			}
		}
	}
}

// Another length, with the sum that goes with it.
func TestDecodeWantsTheLength(t *testing.T) {
	for _, b := range right() {
		mark, body := b[0], b[9:]
		n := uint32(len(body))
		for _, length := range []uint32{0, 1, n - 1, n + 1, n + 9, n << 8, n | 1<<12, n | 1<<16, n | 1<<24, n | 1<<31, math.MaxUint32} {
			wantNeither(t, fmt.Sprint("the length ", length), framed(mark, length, body))
			wantNeither(t, fmt.Sprint("the length ", length, " and more bytes"), framed(mark, length, append(slices.Clone(body), make([]byte, 20)...)))
		}
	}
}

// What the sum is of: the length and the body, all of them and nothing else.
func TestDecodeWantsTheSum(t *testing.T) {
	for _, b := range right() {
		with := func(sum uint32) []byte {
			return slices.Concat(b[:5], binary.BigEndian.AppendUint32(nil, sum), b[9:])
		}
		sum := binary.BigEndian.Uint32(b[5:9])
		for what, other := range map[string]uint32{
			"no sum":                    0,
			"all bits turned":           ^sum,
			"one more":                  sum + 1,
			"the body's alone":          castagnoli(b[9:]),
			"with the mark":             castagnoli(slices.Concat(b[:5], b[9:])),
			"the length's alone":        castagnoli(b[1:5]),
			"without the last byte":     castagnoli(slices.Concat(b[1:5], b[9:len(b)-1])),
			"the lowest of bytes ahead": sum<<24 | sum>>8&0xff<<16 | sum>>16&0xff<<8 | sum>>24,
		} {
			wantNeither(t, what, with(other))
		}
		if !bytes.Equal(with(sum), b) {
			t.Error("the right sum")
		}
	}
}

// A body of one kind under the other one's mark, where it may be of either.
func TestNoBytesAreBoth(t *testing.T) {
	for _, b := range right() {
		_, e := manifest.Decode(b)
		_, f := manifest.DecodeCatalogue(b)
		if (e == api.OK) == (f == api.OK) || e+f != api.ErrDamaged {
			t.Errorf("%x: %d, %d", b, e, f)
		}
	}
	for seed := range uint64(3000) {
		body := []byte(probe.Text(seed, int(seed%24)))
		for i := range body {
			body[i] %= 8
		}
		for _, mark := range []byte{0xb3, 0xb7} {
			wantDecoded(t, framed(mark, uint32(len(body)), body))
		}
	}
}

// long is a number with needless groups behind it.
func long(n uint64, needless int) []byte {
	b := numbered(n)
	for range needless {
		b[len(b)-1] |= 128
		b = append(b, 0)
	}
	return b
}

const top = uint64(math.MaxUint64)

// Bodies by their parts, each a number or a text, and which of them to put in another one's place.
func parts() []any { return []any{3, 300, 400, 200, 77, 2, 1, 299, 2, 5, 6, 7, 8, 9, 10} }

func catalogueParts() []any { return []any{9, 2, 8, "a", 256, 0, 2, "a-1", 300, 5} }

// replaced is parts of which one is another.
func replaced(list []any, at int, by any) []byte {
	list = slices.Clone(list)
	list[at] = by
	return numbered(list...)
}

// Each number in its turn: not as short as can be, above what may be, above 64 bits, or such that it wraps round to the right one.
func TestDecodeOfForgedNumbers(t *testing.T) {
	m := api.Manifest{Id: 3, NextSeg: 300, Next: 400, Mark: 200, Clock: 77, Segs: []int{1, 299}, Prods: []api.Prod{{Pid: 5, Seq: 6, Off: 7}, {Pid: 8, Seq: 9, Off: 10}}}
	wantBytes(t, "by its parts", m, manifestOf(numbered(parts()...)))
	wantBytesOf(t, "by its parts", pair(), catalogueOf(numbered(catalogueParts()...)))
	forge := func(list []any, file func([]byte) []byte) {
		for at, part := range list {
			n, ok := part.(int)
			if !ok {
				continue
			}
			for needless := 1; needless < 10; needless++ {
				wantNeither(t, fmt.Sprint("a long number at ", at), file(replaced(list, at, long(uint64(n), needless))))
			}
			wantDecoded(t, file(replaced(list, at, uint64(n)+1<<32))) // some numbers may be so great
			for _, other := range []uint64{uint64(n) + 1<<63, uint64(n) + 1<<62, 1 << 51, 1 << 63, math.MaxInt64, top - 1, top} {
				wantNeither(t, fmt.Sprint(other, " at ", at), file(replaced(list, at, other)))
			}
			wantNeither(t, "above 64 bits", file(replaced(list, at, []byte("\xff\xff\xff\xff\xff\xff\xff\xff\xff\x02"))))
			wantNeither(t, "without an end", file(replaced(list, at, []byte("\xff\xff\xff\xff\xff\xff\xff\xff\xff\xff\xff\x01"))))
		}
	}
	forge(parts(), manifestOf)
	forge(catalogueParts(), catalogueOf)
}

// Counts that are not so.
func TestDecodeOfForgedCounts(t *testing.T) {
	for _, n := range []uint64{0, 1, 3, 4, 64, 65, 127, 1 << 16, 1<<32 + 2, 1 << 62, 1 << 63, 1<<63 + 2, top} {
		wantNeither(t, fmt.Sprint(n, " segments"), manifestOf(replaced(parts(), 5, n)))
		wantNeither(t, fmt.Sprint(n, " producers"), manifestOf(replaced(parts(), 8, n)))
		wantNeither(t, fmt.Sprint(n, " topics"), catalogueOf(replaced(catalogueParts(), 1, n)))
		wantNeither(t, fmt.Sprint(n, " segments and none"), manifestOf(numbered(3, 300, 0, 0, 0, n)))
		wantNeither(t, fmt.Sprint(n, " producers and none"), manifestOf(numbered(3, 300, 0, 0, 0, 1, 1, max(n, 1))))
		wantNeither(t, fmt.Sprint(n, " topics and none"), catalogueOf(numbered(9, max(n, 1))))
	}
	// as many as are told, but more than may be
	many := []any{3, 300, 400, 200, 77, 65}
	for i := range 65 {
		many = append(many, i+1)
	}
	wantNeither(t, "65 segments", manifestOf(numbered(append(many, 0)...)))
	many = []any{3, 300, 400, 200, 77, 1, 1, 65}
	for i := range 65 {
		many = append(many, i+1, 1, 1)
	}
	wantNeither(t, "65 producers", manifestOf(numbered(many...)))
	many = []any{100, 17}
	for i := range 17 {
		many = append(many, i+1, fmt.Sprintf("a%02d", i), 256, 0)
	}
	wantNeither(t, "17 topics", catalogueOf(numbered(many...)))
}

func TestDecodeOfForgedTexts(t *testing.T) {
	for what, by := range map[string]any{
		"no name":                     "",
		"a name of 25":                strings.Repeat("a", 25),
		"a name of 300":               strings.Repeat("a", 300),
		"a name of other signs":       "A",
		"a name that is no text":      "\xff",
		"a name that is not there":    []byte{3, 'a'},
		"a name of 2^64 - 1":          append(numbered(top), 'a'),
		"a name of 2^32 + 1":          append(numbered(1<<32+1), 'a'),
		"a name of a long length":     append(long(1, 1), 'a'),
		"a name of a longer length":   append(long(1, 9), 'a'),
		"a name without its length":   []byte("a"),
		"a name above the next one":   "b",
		"a name that the next one is": "a-1",
	} {
		wantNeither(t, what, catalogueOf(replaced(catalogueParts(), 3, by)))
	}
}

// slowNumber reads a number, and tells whether it is one, as short as can be.
func slowNumber(body []byte) (uint64, []byte, bool) {
	v, n := binary.Uvarint(body)
	if n <= 0 || n != len(numbered(v)) {
		return 0, nil, false
	}
	return v, body[n:], true
}

// slowDecode reads a manifest's body number by number.
func slowDecode(body []byte) (api.Manifest, bool) {
	ok := true
	number := func() int64 {
		v, rest, right := slowNumber(body)
		body, ok = rest, ok && right
		return int64(v)
	}
	m := api.Manifest{Id: int(number()), NextSeg: int(number()), Next: number(), Mark: number(), Clock: number()}
	for n := uint64(number()); ok && n > 0; n-- {
		m.Segs = append(m.Segs, int(number()))
	}
	for n := uint64(number()); ok && n > 0; n-- {
		m.Prods = append(m.Prods, api.Prod{Pid: number(), Seq: number(), Off: number()})
	}
	return m, ok && len(body) == 0 && slowCheck(m)
}

// slowDecodeCatalogue reads a catalogue's body.
func slowDecodeCatalogue(body []byte) (api.Catalogue, bool) {
	ok := true
	number := func() int64 {
		v, rest, right := slowNumber(body)
		body, ok = rest, ok && right
		return int64(v)
	}
	c := api.Catalogue{NextId: int(number())}
	for n := uint64(number()); ok && n > 0; n-- {
		a := api.TopicEntry{Id: int(number())}
		size := uint64(number())
		if ok = ok && size <= uint64(len(body)); !ok {
			break
		}
		a.Name, body = string(body[:size]), body[size:]
		a.Limit, a.Horizon = int(number()), number()
		c.Topics = append(c.Topics, a)
	}
	return c, ok && len(body) == 0 && slowCatalogue(c)
}

// wantDecoded fails unless bytes with a right length and sum are taken or refused as the slow versions do; it tells whether they are taken.
func wantDecoded(t *testing.T, b []byte) bool {
	t.Helper()
	if m, ok := slowDecode(b[9:]); ok && b[0] == 0xb3 {
		wantBytes(t, "taken", m, b)
		return true
	}
	if c, ok := slowDecodeCatalogue(b[9:]); ok && b[0] == 0xb7 {
		wantBytesOf(t, "taken", c, b)
		return true
	}
	wantNeither(t, "refused", b)
	return false
}

// Bodies near right ones, under right lengths and sums.
func TestDecodeAgainstSlow(t *testing.T) {
	count := map[bool]int{}
	for _, b := range right() {
		mark, body := b[0], b[9:]
		for i, x := range probe.Noise(uint64(len(b)), 4000) {
			other := slices.Clone(body)
			for range 1 + i%2 {
				at := int(x >> 8 % uint64(len(other)))
				switch x >> 24 % 4 {
				case 0:
					other[at] = byte(x >> 32)
				case 1:
					other[at] ^= 1 << (x >> 32 % 8)
				case 2:
					other = slices.Insert(other, at, byte(x>>32%4))
				case 3:
					other = append(slices.Delete(other, at, at+1), 1)
				}
				x >>= 9
			}
			count[wantDecoded(t, framed(mark, uint32(len(other)), other))]++
		}
	}
	if count[true] < 500 || count[false] < 500 {
		t.Errorf("%v", count)
	}
}

// Bytes of no form at all.
func TestDecodeOfAnything(t *testing.T) {
	for seed := range uint64(2000) {
		b := []byte(probe.Text(seed, int(seed%100)))
		wantNeither(t, "any bytes", b)
		if len(b) > 0 {
			b[0] = []byte{0xb3, 0xb7}[seed/100%2]
			wantNeither(t, "any bytes behind a mark", b)
		}
	}
}

// One to four bytes that stand one behind the other, all in the body or all ahead of it, are other ones.
func TestDecodeTellsShortDamage(t *testing.T) {
	for _, b := range right() {
		for at := range b {
			end := len(b)
			if at < 9 {
				end = 9
			}
			for n := 1; n <= 4 && at+n <= end; n++ {
				for _, x := range probe.Noise(uint64(at*5+n), 6) {
					other := bytes.Clone(b)
					for i := range n {
						other[at+i] ^= byte(x >> (8 * i))
					}
					if other[at] != b[at] && other[at+n-1] != b[at+n-1] {
						wantNeither(t, fmt.Sprintf("%d bytes at %d", n, at), other)
					}
				}
			}
			for bit := range 8 {
				other := bytes.Clone(b)
				other[at] ^= 1 << bit
				wantNeither(t, fmt.Sprintf("one bit at %d", at), other)
			}
		}
	}
}

// Of some bytes the other ones are a right body as well: the sum alone tells it.
func TestDecodeTellsOtherRightBodies(t *testing.T) {
	count := 0
	for _, b := range right() {
		for at := 9; at < len(b); at++ {
			other := bytes.Clone(b)
			other[at]++
			_, one := slowDecode(other[9:])
			_, two := slowDecodeCatalogue(other[9:])
			if one && b[0] == 0xb3 || two && b[0] == 0xb7 {
				count++
				wantNeither(t, fmt.Sprint("another byte at ", at), other)
			}
		}
	}
	if count < 20 {
		t.Errorf("%d right bodies", count)
	}
}
