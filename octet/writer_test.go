package octet_test

import (
	"bytes"
	"math"
	"testing"

	"chronicle/octet"
)

func wantWritten(t *testing.T, w *octet.Writer, want []byte) {
	t.Helper()
	if got := w.Bytes(); !bytes.Equal(got, want) || w.Len() != len(want) {
		t.Errorf("written: %x, %d bytes, want %x", got, w.Len(), want)
	}
}

// 1.12
func TestWriter(t *testing.T) {
	w := octet.NewWriter()
	wantWritten(t, w, nil)
	var want []byte
	for _, c := range []struct {
		write func()
		bytes []byte
	}{
		{func() { w.Byte(0) }, []byte{0}},
		{func() { w.Byte(255) }, []byte{255}},
		{func() { w.Uvarint(300) }, []byte{0xac, 2}},
		{func() { w.Uvarint(math.MaxUint64) }, []byte{255, 255, 255, 255, 255, 255, 255, 255, 255, 1}},
		{func() { w.Varint(-3) }, []byte{5}},
		{func() { w.Varint(150) }, []byte{0xac, 2}},
		{func() { w.Varint(math.MinInt64) }, []byte{255, 255, 255, 255, 255, 255, 255, 255, 255, 1}},
		{func() { w.U32(0x01020304) }, []byte{1, 2, 3, 4}},
		{func() { w.U32(math.MaxUint32) }, []byte{255, 255, 255, 255}},
		{func() { w.U64(0x0102030405060708) }, []byte{1, 2, 3, 4, 5, 6, 7, 8}},
		{func() { w.Text("") }, []byte{0}},
		{func() { w.Text("h\xff") }, []byte{2, 'h', 255}},
		{func() { w.Text(string(make([]byte, 128))) }, append([]byte{0x80, 1}, make([]byte, 128)...)},
		{func() { w.Raw(nil) }, nil},
		{func() { w.Raw([]byte{9, 8, 7}) }, []byte{9, 8, 7}},
	} {
		c.write()
		want = append(want, c.bytes...)
		wantWritten(t, w, want)
	}
}

// writeAll calls each method that writes.
func writeAll(w *octet.Writer) {
	w.Byte(1)
	w.Uvarint(2)
	w.Varint(-2)
	w.U32(4)
	w.U64(5)
	w.Text("six")
	w.Raw([]byte{7})
}

func TestZeroWriter(t *testing.T) {
	var zero octet.Writer
	wantWritten(t, &zero, nil)
	made := octet.NewWriter()
	writeAll(&zero)
	writeAll(made)
	wantWritten(t, &zero, []byte{1, 2, 3, 0, 0, 0, 4, 0, 0, 0, 0, 0, 0, 0, 5, 3, 's', 'i', 'x', 7})
	wantWritten(t, made, zero.Bytes())
}

func TestNilWriter(t *testing.T) {
	var none *octet.Writer
	writeAll(none)
	wantWritten(t, none, nil)
}

func TestWritersAreApart(t *testing.T) {
	a, b := octet.NewWriter(), octet.NewWriter()
	a.Text("a")
	wantWritten(t, b, nil)
	b.Byte(9)
	wantWritten(t, a, []byte{1, 'a'})
}
