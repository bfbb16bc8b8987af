package octet

// Compare compares byte by byte.
func Compare(a, b string) int {
	// Ranging goes from rune to rune; the bytes are held against each other, not the runes, since unlike bytes that are no UTF-8 make one rune.
	from := 0
	for to := range a {
		if c := comparePiece(a, b, from, to); c != 0 {
			return c
		}
		from = to
	}
	if c := comparePiece(a, b, from, len(a)); c != 0 {
		return c
	}
	if len(a) < len(b) {
		return -1
	}
	return 0
}

// comparePiece compares the bytes of a from one place to another with those of b there; where b has ended, a is above it.
func comparePiece(a, b string, from, to int) int {
	for i := from; i < to; i++ {
		if i >= len(b) || a[i] > b[i] {
			return 1
		}
		if a[i] < b[i] {
			return -1
		}
	}
	return 0
}

// After tells the least text above all that begin with a prefix.
func After(prefix string) (string, bool) {
	n := len(prefix)
	for n > 0 && prefix[n-1] == 0xff {
		n--
	}
	if n == 0 {
		return "", false
	}
	above := []byte(prefix[:n])
	above[n-1]++
	return string(above), true
}
