// Package octet: numbers and texts as bytes, sums: see doc/01-octet.md.
package octet

import "chronicle/api"

// lastGroup is the place of a short number's tenth byte: nine groups of seven bits stand ahead of it, so one bit of the 64 is left for it.
const lastGroup = 9

// Uvarint writes a number as short as can be.
func Uvarint(v uint64) []byte { return appendUvarint(nil, v) }

func appendUvarint(b []byte, v uint64) []byte {
	for v >= 0x80 {
		b = append(b, byte(v)|0x80)
		v >>= 7
	}
	return append(b, byte(v))
}

// ReadUvarint reads one, and tells how many bytes it has.
func ReadUvarint(b []byte) (uint64, int, api.Errno) {
	v := uint64(0)
	for i, c := range b {
		if i > 0 && c == 0 || i == lastGroup && c != 1 {
			return 0, 0, api.ErrVarint
		}
		v |= uint64(c&0x7f) << (7 * i)
		if c < 0x80 {
			return v, i + 1, api.OK
		}
	}
	return 0, 0, api.ErrShort
}

// Zigzag lays numbers of either sign into those of none.
func Zigzag(v int64) uint64 { return uint64(v<<1) ^ uint64(v>>63) }

// Unzigzag is its inverse.
func Unzigzag(u uint64) int64 { return int64(u>>1) ^ -int64(u&1) }
