package squeeze

import "chronicle/api"

// Tokens tells the pieces of which a block is made.
func Tokens(text []byte) ([]api.Token, api.Errno) {
	if len(text) > api.MaxBlock {
		return nil, api.ErrLong
	}
	var seen table
	var ts []api.Token
	begin := 0 // of the literal that is being gathered
	for i := 0; i < len(text); {
		dist, length := seen.longest(text, i)
		if length == 0 {
			seen.add(text, i)
			i++
			continue
		}
		ts = appendLiteral(ts, text[begin:i])
		ts = append(ts, api.Token{Dist: dist, Len: length})
		for range length { // later matches may begin within this one
			seen.add(text, i)
			i++
		}
		begin = i
	}
	return appendLiteral(ts, text[begin:]), api.OK
}

func appendLiteral(ts []api.Token, b []byte) []api.Token {
	if len(b) == 0 {
		return ts
	}
	return append(ts, literal(b))
}

// literal is the token of these bytes, in memory of its own.
func literal(b []byte) api.Token {
	lit := make([]byte, len(b))
	copy(lit, b)
	return api.Token{Lit: lit}
}

// Expand tells the text of any pieces.
func Expand(ts []api.Token) ([]byte, api.Errno) {
	n, e := textLength(ts)
	if e != api.OK {
		return nil, e
	}
	text := make([]byte, n)
	at := 0
	for _, t := range ts {
		copy(text[at:], t.Lit)
		for k := at; k < at+t.Len; k++ { // one by one: a match may reach into what it adds
			text[k] = text[k-t.Dist]
		}
		at += added(t)
	}
	return text, api.OK
}

// textLength tells how many bytes the tokens add up to; its errors are those of Expand.
func textLength(ts []api.Token) (int, api.Errno) {
	n := 0
	for _, t := range ts {
		if !right(t, n) {
			return 0, api.ErrToken
		}
		n += added(t)
		if n > api.MaxBlock {
			return 0, api.ErrLong
		}
	}
	return n, api.OK
}

// right tells whether a token may stand behind n bytes.
func right(t api.Token, n int) bool {
	if len(t.Lit) > 0 {
		return t.Dist == 0 && t.Len == 0
	}
	return t.Len >= api.MinMatch && t.Len <= api.MaxMatch && t.Dist >= 1 && t.Dist <= min(api.Window, n)
}

// added is how many bytes a right token adds: of its two parts one is empty.
func added(t api.Token) int { return len(t.Lit) + t.Len }
