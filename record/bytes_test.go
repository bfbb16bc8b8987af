package record_test

import (
	"bytes"
	"encoding/hex"
	"math"
	"strconv"
	"strings"
	"testing"

	"chronicle/api"
	"chronicle/probe"
	"chronicle/record"
	"chronicle/squeeze"
)

// 4.2
func TestEncodeTellsBodies(t *testing.T) {
	for _, c := range []struct {
		r    api.Record
		body string
	}{
		{value(5, 300, "k", "v"), "0005ac02016b76"},
		{by(9, 1, value(5, 300, "k", "v")), "0405ac020901016b76"},
		{tomb(5, 300, "k"), "0105ac02016b"},
		{by(9, 300, tomb(5, 300, "k")), "0505ac0209ac02016b"},
		{value(0, 0, "\xff", ""), "00000001ff"},
		{value(1, 2, "k", "aaaaa"), "000102016b6161616161"},
		{value(1, 2, "k", "aaaaaa"), "020102016b0602610b01"},
		{by(1, 2, value(1, 2, "k", "aaaaaa")), "0601020102016b0602610b01"},
		{value(1, 2, "k", asMany), "000102016b" + hex.EncodeToString([]byte(asMany))},
	} {
		b, e := record.Encode(c.r)
		body, _ := hex.DecodeString(c.body)
		if e != api.OK || !bytes.Equal(b, framed(body)) {
			t.Errorf("Encode(%v) = %x, %d, want the body %s", c.r, b, e, c.body)
		}
	}
	b, _ := record.Encode(value(5, 300, "k", "v"))
	if len(b) != 16 || hex.EncodeToString(b[:5]) != "a900000007" {
		t.Errorf("Encode = %x", b)
	}
}

func TestEncodeAndSize(t *testing.T) {
	for _, r := range right() {
		want := slowEncode(r)
		if b, e := record.Encode(r); e != api.OK || !bytes.Equal(b, want) {
			t.Errorf("Encode(%s) = %.40x, %d, want %.40x", brief(r), b, e, want)
		}
		if n := record.Size(r); n != len(want) {
			t.Errorf("Size(%s) = %d, want %d", brief(r), n, len(want))
		}
	}
}

func TestBodiesAreBounded(t *testing.T) {
	for n, r := range map[int]api.Record{
		5:    value(0, 0, "k", ""),
		1115: by(lastPid, lastSeq, value(lastOffset, lastTime, strings.Repeat("k", 64), probe.Text(2, 1024))),
	} {
		b, _ := record.Encode(r)
		if len(b) != 9+n || record.Size(r) != 9+n {
			t.Errorf("%d bytes, want a body of %d", len(b), n)
		}
		if got, size, e := record.Decode(b); got != r || size != 9+n || e != api.OK {
			t.Errorf("a body of %d bytes: %d, %d", n, size, e)
		}
	}
	if b, _ := record.Encode(tomb(0, 0, "k")); len(b) != 14 {
		t.Errorf("the least tombstone has %d bytes", len(b))
	}
}

// A value is squeezed just if that makes it shorter.
func TestValuesAreSqueezed(t *testing.T) {
	fewer, same, more := 0, 0, 0
	for n := range 1025 {
		for _, v := range []string{strings.Repeat("ab", n)[:n], probe.Text(uint64(n), n), probe.Text(7, n/2) + probe.Text(7, n-n/2), (asMany + probe.Text(5, n))[:n]} {
			block, _ := squeeze.Encode([]byte(v))
			b, e := record.Encode(value(0, 0, "k", v))
			if e != api.OK {
				t.Fatalf("a value of %d bytes: %d", n, e)
			}
			want, flag := []byte(v), byte(0)
			switch {
			case len(block) < len(v):
				want, flag = block, 2
				fewer++
			case len(block) == len(v):
				same++
			default:
				more++
			}
			if b[9] != flag || !bytes.Equal(b[14:], want) {
				t.Errorf("a value of %d bytes, a block of %d: flags %d, %d bytes", n, len(block), b[9], len(b)-14)
			}
			if r, _, e := record.Decode(b); e != api.OK || r.Value != v {
				t.Errorf("a value of %d bytes does not come back: %d", n, e)
			}
		}
	}
	if fewer == 0 || same == 0 || more == 0 {
		t.Errorf("blocks shorter, as long, longer: %d, %d, %d", fewer, same, more)
	}
}

func TestEncodeRefuses(t *testing.T) {
	long := tomb(0, 0, "k")
	long.Value = "v"
	for want, r := range map[api.Errno]api.Record{
		api.ErrKind:   {Kind: 0, Offset: -1, Value: strings.Repeat("v", 1025)},
		api.ErrNumber: value(-1, 0, "", strings.Repeat("v", 1025)),
		api.ErrKey:    value(0, 0, "", strings.Repeat("v", 1025)),
		api.ErrValue:  value(0, 0, "k", strings.Repeat("v", 5000)),
	} {
		if b, e := record.Encode(r); e != want || len(b) != 0 || record.Size(r) != 0 {
			t.Errorf("Encode(%s) = %x, %d, want %d; Size = %d", brief(r), b, e, want, record.Size(r))
		}
	}
	if b, e := record.Encode(long); e != api.ErrValue || len(b) != 0 || record.Size(long) != 0 {
		t.Errorf("a tombstone with a value: %x, %d", b, e)
	}
}

// 4.3
func TestDecodeGivesBack(t *testing.T) {
	for _, r := range right() {
		b := slowEncode(r)
		for _, behind := range []string{"", "\x00", "\xa9", string(b), "anything"} {
			if got, n, e := record.Decode(append(bytes.Clone(b), behind...)); got != r || n != len(b) || e != api.OK {
				t.Errorf("Decode of %s = %s, %d, %d", brief(r), brief(got), n, e)
			}
		}
	}
}

func TestDecodeOfFirstParts(t *testing.T) {
	wantNoRecord(t, "nil", nil, api.ErrTorn)
	for _, r := range right() {
		b := slowEncode(r)
		for n := range b {
			wantNoRecord(t, "a first part", b[:n], api.ErrTorn)
		}
		b[5]++ // what is torn is not summed up
		wantNoRecord(t, "a first part with a wrong sum", b[:len(b)-1], api.ErrTorn)
	}
}

func TestDecodeWantsTheMark(t *testing.T) {
	b := slowEncode(value(5, 300, "k", "v"))
	for c := range 256 {
		if c == api.RecordMark {
			continue
		}
		b[0] = byte(c)
		for n := 1; n <= len(b); n++ {
			wantNoRecord(t, "no mark", b[:n], api.ErrBroken)
		}
	}
}

func TestDecodeOfLengths(t *testing.T) {
	for _, n := range []uint32{0, 1, 4, 1116, 1117, 1 << 16, 1<<16 + 7, 1 << 24, 1<<31 - 1, 1 << 31, 1<<31 + 7, math.MaxUint32 - 3, math.MaxUint32} {
		head := []byte{0xa9, byte(n >> 24), byte(n >> 16), byte(n >> 8), byte(n)}
		for _, behind := range []int{0, 1, 4, 5, 9, 1115, 3000} {
			wantNoRecord(t, "a length that may not be", append(bytes.Clone(head), make([]byte, behind)...), api.ErrBroken)
		}
		for i := range 5 {
			wantNoRecord(t, "a piece of a length", head[:i], api.ErrTorn)
		}
	}
	for _, n := range []int{5, 6, 255, 256, 1114, 1115} {
		b := append([]byte{0xa9, 0, 0, byte(n >> 8), byte(n)}, make([]byte, n+4)...)
		wantNoRecord(t, "one byte too few", b[:len(b)-1], api.ErrTorn)
		wantNoRecord(t, "a wrong sum", b, api.ErrBroken)
		wantNoRecord(t, "the head alone", b[:9], api.ErrTorn)
	}
	// With a right sum they may not be either.
	wantNoRecord(t, "a body of 4", framed([]byte{0, 0, 0, 1}), api.ErrBroken)
	body := append(slowBody(by(lastPid, lastSeq, value(lastOffset, lastTime, strings.Repeat("k", 64), probe.Text(2, 1024)))), 0)
	wantNoRecord(t, "a body of 1116", framed(body), api.ErrBroken)
}

func TestDecodeOfWrongSums(t *testing.T) {
	for _, r := range right() {
		b := slowEncode(r)
		for at := 5; at < len(b); at++ {
			for bit := range 8 {
				b[at] ^= 1 << bit
				wantNoRecord(t, "a wrong sum", b, api.ErrBroken)
				b[at] ^= 1 << bit
			}
		}
	}
}

// One to four bytes side by side that are other ones are found, as long as they lie on one side of where the body begins.
func TestDecodeTellsShortDamage(t *testing.T) {
	noise := probe.Noise(3, 60)
	for _, r := range right() {
		b := slowEncode(r)
		for i, x := range noise {
			size := 1 + i%4
			for at := 0; at+size <= len(b); at++ {
				if at < 9 && at+size > 9 {
					continue
				}
				c := bytes.Clone(b)
				for k := range size {
					c[at+k] ^= byte(x>>(8*k)) | 1
				}
				if got, n, e := record.Decode(c); e == api.OK && n == len(b) {
					t.Fatalf("%d other bytes at %d: %s", size, at, brief(got))
				}
			}
		}
	}
}

// forged is bodies that no record has, each by what is wrong with it.
func forged() map[string]string {
	squeezedTo := func(text string) string {
		block, _ := squeeze.Encode([]byte(text))
		return string(block)
	}
	list := map[string]string{
		"a tombstone with a value":          "\x01\x05\x05\x01kv",
		"a tombstone with a squeezed none":  "\x03\x05\x05\x01k\x00",
		"a squeezed tombstone":              "\x03\x05\x05\x01k",
		"a squeezed tombstone with a value": "\x03\x05\x05\x01k" + squeezedTo("aaaaaa"),
		"an offset too great":               "\x00\x80\x80\x80\x80\x80\x20\x05\x01kv",
		"an offset of 2^63":                 "\x00\x80\x80\x80\x80\x80\x80\x80\x80\x80\x01\x05\x01kv",
		"an offset of 2^64 - 1":             "\x00\xff\xff\xff\xff\xff\xff\xff\xff\xff\x01\x05\x01kv",
		"an offset above 64 bits":           "\x00\xff\xff\xff\xff\xff\xff\xff\xff\xff\x02\x05\x01kv",
		"a long offset":                     "\x00\x85\x00\x05\x01kv",
		"a time too great":                  "\x00\x05\x80\x80\x80\x80\x80\x80\x80\x02\x01kv",
		"a time of 2^63":                    "\x00\x05\x80\x80\x80\x80\x80\x80\x80\x80\x80\x01\x01kv",
		"a long time":                       "\x00\x05\x85\x00\x01kv",
		"a producer 0":                      "\x04\x05\x05\x00\x01\x01kv",
		"a producer 0 with the number 0":    "\x04\x05\x05\x00\x00\x01kv",
		"a producer too great":              "\x04\x05\x05\x80\x80\x80\x80\x10\x01\x01kv",
		"a producer of 2^64 - 1":            "\x04\x05\x05\xff\xff\xff\xff\xff\xff\xff\xff\xff\x01\x01\x01kv",
		"a long producer":                   "\x04\x05\x05\x85\x00\x01\x01kv",
		"a producer's number 0":             "\x04\x05\x05\x05\x00\x01kv",
		"a producer's number too great":     "\x04\x05\x05\x05\x80\x80\x80\x80\x80\x20\x01kv",
		"a producer's long number":          "\x04\x05\x05\x05\x85\x00\x01kv",
		"no key":                            "\x00\x05\x05\x00v",
		"a key too long":                    "\x00\x05\x05\x41" + strings.Repeat("k", 66),
		"a key far too long":                "\x00\x05\x05\x80\x04" + strings.Repeat("k", 600),
		"a key's long length":               "\x00\x05\x05\x81\x00kv",
		"a key that is not all there":       "\x00\x05\x05\x03kv",
		"a key's length of 2^64 - 1":        "\x00\x05\x05\xff\xff\xff\xff\xff\xff\xff\xff\xff\x01kv",
		"a value that should be squeezed":   "\x00\x05\x05\x01kaaaaaa",
		"a long value, to be squeezed":      "\x00\x05\x05\x01k" + strings.Repeat("a", 1024),
		"a value as it is, said squeezed":   "\x02\x05\x05\x01kaaaaaa",
		"a block that is not shorter":       "\x02\x05\x05\x01k" + squeezedTo(asMany),
		"a block that is longer":            "\x02\x05\x05\x01k" + squeezedTo("abc"),
		"a block of none":                   "\x02\x05\x05\x01k\x00",
		"no block":                          "\x02\x05\x05\x01k",
		"a block with a byte behind":        "\x02\x05\x05\x01k" + squeezedTo("aaaaaa") + "\x00",
		"a block without its last byte":     "\x02\x05\x05\x01k" + squeezedTo("aaaaaa")[:4],
		"a block of other tokens":           "\x02\x05\x05\x01k" + "\x0c\x02a\x0b\x01\x0d\x01",
		"a squeezed value too long":         "\x02\x05\x05\x01k" + squeezedTo(strings.Repeat("a", 1025)),
		"a squeezed value far too long":     "\x02\x05\x05\x01k" + squeezedTo(strings.Repeat("a", 4096)),
		"a value too long":                  "\x00\x05\x05\x01k" + probe.Text(1, 1025),
	}
	for flags := 8; flags < 256; flags++ {
		list["the flags "+strconv.Itoa(flags)] = string([]byte{byte(flags)}) + behindFlags(flags)
	}
	return list
}

// behindFlags is what would stand behind these flags, if the lowest three of them were all.
func behindFlags(flags int) string {
	r := value(5, 5, "k", "v")
	if flags&2 != 0 {
		r.Value = "aaaaaa"
	}
	if flags&1 != 0 {
		r = tomb(5, 5, "k")
	}
	if flags&4 != 0 {
		r = by(3, 4, r)
	}
	return string(slowBody(r)[1:])
}

func TestDecodeOfForgedBodies(t *testing.T) {
	for name, body := range forged() {
		b := framed([]byte(body))
		wantNoRecord(t, name, b, api.ErrBroken)
		wantNoRecord(t, name+", more behind", append(b, b...), api.ErrBroken)
	}
}

// A body whose last bytes are not there is no other record's, unless it is one whose value is shorter.
func TestDecodeOfShortBodies(t *testing.T) {
	for _, r := range right() {
		body := slowBody(r)
		for n := range body {
			b := framed(body[:n])
			got, size, e := record.Decode(b)
			if e == api.OK && (size != len(b) || !bytes.Equal(slowEncode(got), b)) {
				t.Fatalf("%d bytes of a body: %s", n, brief(got))
			}
			if e != api.OK && e != api.ErrBroken {
				t.Fatalf("%d bytes of a body: %d", n, e)
			}
		}
	}
	for n := 5; n < 9; n++ {
		wantNoRecord(t, "a body that ends ahead of its key's end", framed([]byte("\x04\x05\x05\x01\x01\x03key")[:n]), api.ErrBroken)
	}
}

// Whatever body is taken is the body of what it is taken for: one text for one thing.
func TestDecodeTakesOneForm(t *testing.T) {
	taken := 0
	for _, r := range right() {
		body := slowBody(r)
		for at := 0; at < len(body); at += 1 + at/32 { // within a long value not every byte, and few others in its place
			for c := 0; c < 256; c += 1 + at/8 {
				forgery := bytes.Clone(body)
				forgery[at] = byte(c)
				b := framed(forgery)
				got, n, e := record.Decode(b)
				if e == api.OK {
					taken++
				}
				if e == api.OK && (n != len(b) || record.Check(got) != api.OK || !bytes.Equal(slowEncode(got), b)) {
					t.Fatalf("the byte %d at %d: %s", c, at, brief(got))
				}
			}
		}
	}
	if taken < 5000 {
		t.Errorf("only %d were taken", taken)
	}
}

func TestDecodeOfAnyBytes(t *testing.T) {
	for seed := range uint64(2000) {
		body := []byte(probe.Text(seed, int(5+seed%40)))
		for i := range body[:4] {
			body[i] %= 8
		}
		b := framed(body)
		got, n, e := record.Decode(b)
		switch {
		case e == api.OK && (n != len(b) || !bytes.Equal(slowEncode(got), b)):
			t.Fatalf("%x: %v", b, got)
		case e != api.OK && (e != api.ErrBroken || n != 0 || got != api.Record{}):
			t.Fatalf("%x: %v, %d, %d", b, got, n, e)
		}
	}
}
