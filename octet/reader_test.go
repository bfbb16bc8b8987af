package octet_test

import (
	"bytes"
	"math"
	"testing"

	"chronicle/api"
	"chronicle/octet"
)

// 1.13
func TestReaderReadsBack(t *testing.T) {
	w := octet.NewWriter()
	w.Byte(255)
	w.Uvarint(300)
	w.Varint(-150)
	w.U32(0x01020304)
	w.U64(0x0102030405060708)
	w.Text("")
	w.Text("h\xff")
	w.Raw([]byte{9, 8})
	r := octet.NewReader(w.Bytes())
	rest := w.Len()
	step := func(name string, ok bool, size int) {
		t.Helper()
		rest -= size
		if !ok || r.Rest() != rest {
			t.Errorf("%s: read right: %v, rest %d, want %d", name, ok, r.Rest(), rest)
		}
		want := api.Spot{Err: api.ErrLeft, At: w.Len() - rest}
		if rest == 0 {
			want = api.Spot{}
		}
		if got := r.End(); got != want {
			t.Errorf("%s: End = %v, want %v", name, got, want)
		}
	}
	step("Byte", r.Byte() == 255, 1)
	step("Uvarint", r.Uvarint() == 300, 2)
	step("Varint", r.Varint() == -150, 2)
	step("U32", r.U32() == 0x01020304, 4)
	step("U64", r.U64() == 0x0102030405060708, 8)
	step("Text of none", r.Text(0) == "", 1)
	step("Text", r.Text(2) == "h\xff", 3)
	step("Raw of none", len(r.Raw(0)) == 0, 0)
	step("Raw", bytes.Equal(r.Raw(2), []byte{9, 8}), 2)
	step("Raw of none at the end", len(r.Raw(0)) == 0, 0)
}

// allZero tells whether each method answers zero.
func allZero(r *octet.Reader) bool {
	return r.Byte() == 0 && r.Uvarint() == 0 && r.Varint() == 0 && r.U32() == 0 && r.U64() == 0 &&
		r.Text(9) == "" && r.Text(-1) == "" && len(r.Raw(1)) == 0 && len(r.Raw(0)) == 0 && len(r.Raw(-1)) == 0 && r.Rest() == 0
}

func TestReaderFails(t *testing.T) {
	read := map[string]func(r *octet.Reader) bool{
		"Byte":       func(r *octet.Reader) bool { return r.Byte() == 0 },
		"Uvarint":    func(r *octet.Reader) bool { return r.Uvarint() == 0 },
		"Varint":     func(r *octet.Reader) bool { return r.Varint() == 0 },
		"U32":        func(r *octet.Reader) bool { return r.U32() == 0 },
		"U64":        func(r *octet.Reader) bool { return r.U64() == 0 },
		"Text(3)":    func(r *octet.Reader) bool { return r.Text(3) == "" },
		"Text(0)":    func(r *octet.Reader) bool { return r.Text(0) == "" },
		"Text(-9)":   func(r *octet.Reader) bool { return r.Text(-9) == "" },
		"Text(max)":  func(r *octet.Reader) bool { return r.Text(math.MaxInt) == "" },
		"Raw(3)":     func(r *octet.Reader) bool { return len(r.Raw(3)) == 0 },
		"Raw(-1)":    func(r *octet.Reader) bool { return len(r.Raw(-1)) == 0 },
		"Raw(min)":   func(r *octet.Reader) bool { return len(r.Raw(math.MinInt)) == 0 },
		"Raw(max)":   func(r *octet.Reader) bool { return len(r.Raw(math.MaxInt)) == 0 },
		"Fail(Kind)": func(r *octet.Reader) bool { r.Fail(api.ErrKind); return true },
	}
	for _, c := range []struct {
		name, b string
		want    api.Errno
	}{
		{"Byte", "", api.ErrShort},
		{"Uvarint", "", api.ErrShort},
		{"Uvarint", "\x80", api.ErrShort},
		{"Uvarint", "\x80\x00", api.ErrVarint},
		{"Uvarint", "\xff\xff\xff\xff\xff\xff\xff\xff\xff\x02", api.ErrVarint},
		{"Varint", "", api.ErrShort},
		{"Varint", "\xff", api.ErrShort},
		{"Varint", "\x81\x00", api.ErrVarint},
		{"U32", "\x01\x02\x03", api.ErrShort},
		{"U64", "\x01\x02\x03\x04\x05\x06\x07", api.ErrShort},
		{"Text(3)", "", api.ErrShort},
		{"Text(3)", "\x80", api.ErrShort},
		{"Text(3)", "\x80\x00", api.ErrVarint},
		{"Text(3)", "\x04", api.ErrMuch},
		{"Text(3)", "\x04abcd", api.ErrMuch},
		{"Text(3)", "\x03ab", api.ErrShort},
		{"Text(0)", "\x01a", api.ErrMuch},
		{"Text(-9)", "\x01a", api.ErrMuch},
		{"Text(max)", "\x03ab", api.ErrShort},
		{"Text(max)", "\xff\xff\xff\xff\xff\xff\xff\xff\x7fabc", api.ErrShort},
		{"Text(max)", "\x80\x80\x80\x80\x80\x80\x80\x80\x80\x01abc", api.ErrMuch},
		{"Raw(3)", "ab", api.ErrShort},
		{"Raw(-1)", "ab", api.ErrMuch},
		{"Raw(-1)", "", api.ErrMuch},
		{"Raw(min)", "", api.ErrMuch},
		{"Raw(max)", "abc", api.ErrShort},
		{"Fail(Kind)", "", api.ErrKind},
		{"Fail(Kind)", "abc", api.ErrKind},
	} {
		for _, ahead := range []int{0, 2} {
			r := octet.NewReader(append(make([]byte, ahead), c.b...))
			r.Raw(ahead)
			zero, want := read[c.name](r), api.Spot{Err: c.want, At: ahead}
			if !zero || r.End() != want || r.Rest() != 0 {
				t.Errorf("%s of %x at %d: zero %v, End %v, Rest %d", c.name, c.b, ahead, zero, r.End(), r.Rest())
			}
			r.Fail(api.ErrHint)
			if !allZero(r) || r.End() != want {
				t.Errorf("%s of %x at %d: it does not stay failed: %v", c.name, c.b, ahead, r.End())
			}
		}
	}
}

func TestReaderTextOfMostBelowZero(t *testing.T) {
	r := octet.NewReader([]byte{0, 0, 7})
	if r.Text(-1) != "" || r.Text(math.MinInt) != "" || r.Rest() != 1 || r.Byte() != 7 || r.End() != (api.Spot{}) {
		t.Errorf("empty texts: %v", r.End())
	}
}

func TestReaderGoesOnBehindEnd(t *testing.T) {
	r := octet.NewReader([]byte{1, 2})
	r.Fail(api.OK)
	if r.End() != (api.Spot{Err: api.ErrLeft}) || r.Rest() != 2 || r.Byte() != 1 {
		t.Error("ErrLeft is no failure, and OK none")
	}
	if r.End() != (api.Spot{Err: api.ErrLeft, At: 1}) || r.Byte() != 2 || r.End() != (api.Spot{}) {
		t.Error("it goes on to its end")
	}
	if r.Byte() != 0 || r.End() != (api.Spot{Err: api.ErrShort, At: 2}) {
		t.Error("a read at the end fails")
	}
}

func TestZeroReader(t *testing.T) {
	for _, r := range []*octet.Reader{{}, octet.NewReader(nil), octet.NewReader([]byte{})} {
		if r.Rest() != 0 || r.End() != (api.Spot{}) || len(r.Raw(0)) != 0 || r.End() != (api.Spot{}) {
			t.Error("it is over no bytes")
		}
		if !allZero(r) || r.End() != (api.Spot{Err: api.ErrShort}) {
			t.Errorf("it fails as one over no bytes: %v", r.End())
		}
	}
}

func TestNilReader(t *testing.T) {
	var none *octet.Reader
	none.Fail(api.ErrKind)
	if !allZero(none) || none.End() != (api.Spot{}) {
		t.Error("a nil reader answers zero")
	}
}
