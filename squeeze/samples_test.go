package squeeze_test

import (
	"bytes"
	"slices"
	"strconv"
	"strings"

	"chronicle/api"
	"chronicle/probe"
)

// noise is a text of n bytes out of the first so many letters, which looks like none in particular and is the same in each run.
func noise(n, letters int, seed uint64) []byte {
	b := make([]byte, n)
	for i, x := range probe.Noise(seed, n) {
		b[i] = byte(x >> 20 % uint64(letters))
	}
	return b
}

// unique is a text of n bytes in which no four bytes stand twice: a counter in units of two bytes, of which only the second has its highest bit.
func unique(n int) []byte {
	var b []byte
	for i := 0; len(b) < n; i++ {
		b = append(b, byte(i&0x7f), byte(i>>7|0x80))
	}
	return b[:n]
}

// repeatAt is a text that has, behind dist bytes of which no four are the same, their first ones again, length of them (over and over, if they are fewer), and then bytes that go on otherwise; rest is these.
func repeatAt(dist, length int) (text, rest []byte) {
	text = unique(dist)
	for range length {
		text = append(text, text[len(text)-dist])
	}
	rest = []byte{text[len(text)-dist] ^ 0x40, 'x', 'y', 'z'}
	return append(text, rest...), rest
}

// records is a text of the kind that the store writes.
func records(n int) []byte {
	var b []byte
	for i := 0; len(b) < n; i++ {
		b = append(b, `{"user":"u`+strconv.Itoa(i*i%89)+`","state":"`+strings.Repeat("on", i%7)+`","n":`+strconv.Itoa(i)+"}\n"...)
	}
	return b[:n]
}

// texts has texts of all sorts, none of them too long.
func texts() [][]byte {
	list := [][]byte{nil, {}, []byte("a"), []byte("abc"), []byte("abcabcabc"), []byte("abcdeXabcdeY"), []byte("abcdeXabcdeYabcdeX"), []byte("ababababababab")}
	for n := range 24 {
		list = append(list, bytes.Repeat([]byte("a"), n), noise(n, 2, uint64(n)))
	}
	for _, n := range []int{257, 258, 259, 260, 263, 264, 517, 518, 600, 2047, 2048, 2049, 4095, 4096} {
		list = append(list, bytes.Repeat([]byte("a"), n), bytes.Repeat([]byte("abc"), n/3), records(n), unique(n))
		for _, letters := range []int{2, 3, 4, 6, 20, 256} {
			list = append(list, noise(n, letters, uint64(n)))
		}
	}
	for _, dist := range []int{5, 6, 2047, 2048, 2049} {
		for _, length := range []int{1, 4, 5, 6, 257, 258, 259, 262, 263} {
			text, _ := repeatAt(dist, length)
			list = append(list, text)
		}
	}
	for _, gap := range []int{300, 2043, 2048, 2050} { // pieces that come again and again, near and far
		piece := noise(40, 256, 7)
		text := slices.Concat(piece, noise(gap-40, 3, 1), piece[:20], noise(100, 3, 2), piece[5:], noise(300, 3, 3), piece)
		list = append(list, text)
	}
	return list
}

// slowMatch is the match at a place as 2.2 tells it, with a look at every distance; zeros, if there is none.
func slowMatch(text []byte, i int) (dist, length int) {
	for d := 1; d <= min(i, api.Window); d++ {
		n := 0
		for n < api.MaxMatch && i+n < len(text) && text[i+n] == text[i+n-d] {
			n++
		}
		if n > length {
			dist, length = d, n
		}
	}
	if length < api.MinMatch {
		return 0, 0
	}
	return dist, length
}

// slowTokens is a text's own tokens as 2.2 tells them.
func slowTokens(text []byte) []api.Token {
	var ts []api.Token
	var lit []byte
	for i := 0; i < len(text); {
		dist, length := slowMatch(text, i)
		if length == 0 {
			lit = append(lit, text[i])
			i++
			continue
		}
		if len(lit) > 0 {
			ts = append(ts, api.Token{Lit: lit})
			lit = nil
		}
		ts = append(ts, api.Token{Dist: dist, Len: length})
		i += length
	}
	if len(lit) > 0 {
		ts = append(ts, api.Token{Lit: lit})
	}
	return ts
}

// slowExpand is 2.1, byte by byte.
func slowExpand(ts []api.Token) ([]byte, api.Errno) {
	var text []byte
	for _, t := range ts {
		lit := len(t.Lit) > 0 && t.Dist == 0 && t.Len == 0
		match := len(t.Lit) == 0 && t.Len >= 5 && t.Len <= 258 && t.Dist >= 1 && t.Dist <= 2048 && t.Dist <= len(text)
		if !lit && !match {
			return nil, api.ErrToken
		}
		text = append(text, t.Lit...)
		for range t.Len {
			text = append(text, text[len(text)-t.Dist])
		}
		if len(text) > 4096 {
			return nil, api.ErrLong
		}
	}
	return text, api.OK
}

// groups is a short number, with quotients and rests.
func groups(v int) []byte {
	var b []byte
	for ; v >= 128; v /= 128 {
		b = append(b, byte(v%128+128))
	}
	return append(b, byte(v))
}

// slowBlock is 2.4, of tokens that are right.
func slowBlock(ts []api.Token) []byte {
	text, _ := slowExpand(ts)
	b := groups(len(text))
	for _, t := range ts {
		if len(t.Lit) > 0 {
			b = append(append(b, groups(2*len(t.Lit))...), t.Lit...)
		} else {
			b = append(append(b, groups(2*t.Len+1)...), groups(t.Dist)...)
		}
	}
	return b
}

// slowNumber reads a number as loosely as can be: needless bytes are taken. ok is false, if b ends within it or it is far too great.
func slowNumber(b []byte) (v int, rest []byte, ok bool) {
	for i, c := range b {
		if i > 4 {
			return 0, nil, false
		}
		v |= int(c&0x7f) << (7 * i)
		if c < 128 {
			return v, b[i+1:], true
		}
	}
	return 0, nil, false
}

// slowRead reads tokens loosely, and takes them if the block, byte for byte, is theirs.
func slowRead(block []byte) ([]api.Token, bool) {
	var ts []api.Token
	_, rest, ok := slowNumber(block)
	for ok && len(rest) > 0 {
		var head, dist int
		if head, rest, ok = slowNumber(rest); !ok {
			break
		}
		if head%2 == 1 {
			dist, rest, ok = slowNumber(rest)
			ts = append(ts, api.Token{Dist: dist, Len: head / 2})
		} else if ok = head/2 <= len(rest); ok {
			ts = append(ts, api.Token{Lit: rest[:head/2]})
			rest = rest[head/2:]
		}
	}
	if _, e := slowExpand(ts); !ok || e != api.OK || !bytes.Equal(slowBlock(ts), block) {
		return nil, false
	}
	return ts, true
}

func sameTokens(a, b []api.Token) bool {
	return slices.EqualFunc(a, b, func(x, y api.Token) bool {
		return bytes.Equal(x.Lit, y.Lit) && x.Dist == y.Dist && x.Len == y.Len
	})
}

func lit(s string) api.Token { return api.Token{Lit: []byte(s)} }

func match(dist, length int) api.Token { return api.Token{Dist: dist, Len: length} }
