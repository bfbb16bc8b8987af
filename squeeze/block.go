package squeeze

import (
	"chronicle/api"
	"chronicle/octet"
)

// Write writes the block of any right pieces.
func Write(ts []api.Token) ([]byte, api.Errno) {
	n, e := textLength(ts)
	if e != api.OK {
		return nil, e
	}
	return blockOf(n, ts), api.OK
}

// blockOf is the block of right tokens, whose text has n bytes.
func blockOf(n int, ts []api.Token) []byte {
	w := octet.NewWriter()
	w.Uvarint(uint64(n))
	for _, t := range ts {
		if len(t.Lit) > 0 {
			w.Uvarint(uint64(2 * len(t.Lit)))
			w.Raw(t.Lit)
		} else {
			w.Uvarint(uint64(2*t.Len + 1))
			w.Uvarint(uint64(t.Dist))
		}
	}
	return w.Bytes()
}

// Read tells the pieces of a block, if they are right ones.
func Read(block []byte) ([]api.Token, api.Errno) {
	whole, used, e := octet.ReadUvarint(block)
	if e != api.OK || whole > api.MaxBlock {
		return nil, api.ErrBlock
	}
	var ts []api.Token
	n := 0
	for rest := block[used:]; len(rest) > 0; rest = rest[used:] {
		var t api.Token
		t, used = readToken(rest, n, int(whole)-n)
		if used == 0 {
			return nil, api.ErrBlock
		}
		ts = append(ts, t)
		n += added(t)
	}
	if n != int(whole) {
		return nil, api.ErrBlock
	}
	return ts, api.OK
}

// readToken reads the token at the beginning of b, behind n bytes of a text that has room for so many more, and tells how many bytes it takes: none, if no right token stands there.
func readToken(b []byte, n, room int) (api.Token, int) {
	head, used, e := octet.ReadUvarint(b)
	if e != api.OK || head/2 > uint64(room) { // ahead of all else, so that nothing is made that the text has no room for
		return api.Token{}, 0
	}
	size := int(head / 2)
	if head%2 == 0 {
		return readLiteral(b, used, size)
	}
	dist, more, e := octet.ReadUvarint(b[used:])
	if e != api.OK || dist > api.Window {
		return api.Token{}, 0
	}
	t := api.Token{Dist: int(dist), Len: size}
	if !right(t, n) {
		return api.Token{}, 0
	}
	return t, used + more
}

// readLiteral reads the size bytes of a literal, behind the bytes of b that were used for its head.
func readLiteral(b []byte, used, size int) (api.Token, int) {
	if size == 0 || size > len(b)-used {
		return api.Token{}, 0
	}
	return literal(b[used : used+size]), used + size
}
