package octet

import "slices"

// Writer gathers bytes.
type Writer struct {
	data []byte
}

// NewWriter makes one.
func NewWriter() *Writer { return &Writer{} }

// Byte writes a byte.
func (w *Writer) Byte(v byte) {
	if w != nil {
		w.data = append(w.data, v)
	}
}

// Uvarint writes a number.
func (w *Writer) Uvarint(v uint64) {
	if w != nil {
		w.data = appendUvarint(w.data, v)
	}
}

// Varint writes a number of either sign.
func (w *Writer) Varint(v int64) { w.Uvarint(Zigzag(v)) }

// U32 writes four bytes.
func (w *Writer) U32(v uint32) { w.fixed(uint64(v), 4) }

// U64 writes eight bytes.
func (w *Writer) U64(v uint64) { w.fixed(v, 8) }

// fixed writes the lowest size bytes of v, the highest of them first.
func (w *Writer) fixed(v uint64, size int) {
	for size > 0 {
		size--
		w.Byte(byte(v >> (8 * size)))
	}
}

// Text writes a length and a text.
func (w *Writer) Text(s string) {
	if w != nil {
		w.data = append(appendUvarint(w.data, uint64(len(s))), s...)
	}
}

// Raw writes bytes as they are.
func (w *Writer) Raw(b []byte) {
	if w != nil {
		w.data = append(w.data, b...)
	}
}

// Len tells how many bytes there are.
func (w *Writer) Len() int {
	if w == nil {
		return 0
	}
	return len(w.data)
}

// Bytes tells them.
func (w *Writer) Bytes() []byte {
	if w == nil {
		return nil
	}
	return slices.Clone(w.data)
}
