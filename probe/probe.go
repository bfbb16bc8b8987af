// Package probe: what the tests of several layers share. The program itself does not call it.
package probe

import (
	"bytes"
	"slices"
)

// Noise is a row of n numbers that look like none in particular; it is the same for the same seed.
func Noise(seed uint64, n int) []uint64 {
	list := make([]uint64, n)
	x := seed*2685821657736338717 + 88172645463325252
	for i := range list {
		x ^= x << 13
		x ^= x >> 7
		x ^= x << 17
		list[i] = x
	}
	return list
}

// Text is a text of n bytes that look like none in particular: squeezing does not make it shorter.
func Text(seed uint64, n int) string {
	b := make([]byte, n)
	for i, x := range Noise(seed, n) {
		b[i] = byte(x >> 20)
	}
	return string(b)
}

// Roomy is a copy of b with room behind its end, which holds other bytes, and a check that neither was changed.
func Roomy(b string) ([]byte, func() bool) {
	whole := append([]byte(b), "room behind the end"...)
	kept := bytes.Clone(whole)
	return whole[:len(b)], func() bool { return bytes.Equal(whole, kept) }
}

// Spare is the same of a list: the room behind its end holds an odd one, twice.
func Spare[T comparable](list []T, odd T) ([]T, func() bool) {
	whole := append(slices.Clone(list), odd, odd)
	kept := slices.Clone(whole)
	return whole[:len(list)], func() bool { return slices.Equal(whole, kept) }
}

// Scribble writes over all that a list has, and over the room behind its end.
func Scribble[T any](list []T) { clear(list[:cap(list)]) }
