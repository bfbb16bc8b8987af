package octet

// polynomial is that of CRC-32C, the lowest power at the top bit.
const polynomial = 0x82F63B78

// byteShift is, as a polynomial, the eighth power of x: to multiply by it is to shift by a byte.
const byteShift = 1 << (31 - 8)

// sums has the sum of each single byte.
var sums [256]uint32

func init() {
	for i := range sums {
		// A byte's bits meet the lowest eight of the register, which is all ones: so they can be laid on it all at once.
		register := ^uint32(i)
		for range 8 {
			register = shift(register)
		}
		sums[i] = ^register
	}
}

// shift is the chapter's M: a register goes on by a bit.
func shift(x uint32) uint32 {
	if x&1 == 1 {
		return x>>1 ^ polynomial
	}
	return x >> 1
}

// unshift is the inverse of shift: since the polynomial has the top bit, that bit tells whether the register was odd.
func unshift(x uint32) uint32 {
	if x>>31 == 1 {
		return (x^polynomial)<<1 | 1
	}
	return x << 1
}

// Sum tells the check sum.
func Sum(b []byte) uint32 { return Extend(0, b) }

// Extend tells the sum of a text that goes on.
func Extend(sum uint32, b []byte) uint32 {
	// The table holds sums, not registers: the bits that are turned ahead of a byte and behind it are in it already.
	for _, c := range b {
		sum = sums[byte(sum)^c] ^ sum>>8
	}
	return sum
}

// Join tells the sum of two texts, one behind the other, of the sums of both and the length of the second.
func Join(a, b uint32, n int) uint32 {
	// To shift by n bytes is to multiply by a power, and powers come by squaring: so a great n takes no longer than its bits.
	power := uint32(byteShift)
	for ; n > 0; n >>= 1 {
		if n&1 == 1 {
			a = multiply(a, power)
		}
		power = multiply(power, power)
	}
	return a ^ b
}

// multiply multiplies two polynomials modulo that of the sums.
func multiply(a, b uint32) uint32 {
	product := uint32(0)
	for ; a != 0; a <<= 1 {
		if a>>31 == 1 {
			product ^= b
		}
		b = shift(b)
	}
	return product
}

// Patch tells the four bytes that, behind b, make its sum this.
func Patch(b []byte, want uint32) []byte {
	// Four bytes meet all bits of the register, so they may be laid on it ahead of the 32 shifts, which are done backwards here.
	register := ^want
	for range 32 {
		register = unshift(register)
	}
	t := register ^ ^Sum(b)
	return []byte{byte(t), byte(t >> 8), byte(t >> 16), byte(t >> 24)}
}
