package squeeze

import "chronicle/api"

// numberBits is the size of the numbers that are made of bytes.
const numberBits = 11

// table keeps the places of a text that were gone by, so that those where the bytes of a match may have stood are found without a look at all of them. Places count from 1 on in it: 0 is none.
type table struct {
	last  [1 << numberBits]uint16 // by the number of the bytes at a place, the last such place
	ahead [api.MaxBlock]uint16    // for each place the one ahead of it that has its number
}

// number is made of as many bytes as the shortest match has: where these are the same, it is.
func number(b []byte) uint64 {
	v := uint64(0)
	for _, c := range b[:api.MinMatch] {
		v = v<<8 | uint64(c)
	}
	return v * 0x9e3779b97f4a7c15 >> (64 - numberBits) // the highest bits of the product hang on all of v
}

// add keeps the place i of the text, if a match may begin there.
func (t *table) add(text []byte, i int) {
	if len(text)-i < api.MinMatch {
		return
	}
	n := number(text[i:])
	t.ahead[i] = t.last[n]
	t.last[n] = uint16(i + 1)
}

// longest tells how far back the longest match at i begins, the nearest of several, and how long it is; zeros, if there is none.
func (t *table) longest(text []byte, i int) (int, int) {
	most := min(api.MaxMatch, len(text)-i)
	if most < api.MinMatch {
		return 0, 0
	}
	dist, length := 0, 0
places:
	for p := t.last[number(text[i:])]; p > 0; p = t.ahead[p-1] {
		far := i + 1 - int(p)
		if far > api.Window {
			break places // those ahead of it are farther still
		}
		// The nearest places come first: one that is farther has to be longer, not as long.
		for k := range max(api.MinMatch, length+1) {
			if text[i+k] != text[i+k-far] {
				continue places
			}
		}
		dist, length = far, repeated(text[:i+most], i, far)
		if length == most {
			break places
		}
	}
	return dist, length
}

// repeated tells how many bytes from i on are the same as those so far ahead of them.
func repeated(text []byte, i, far int) int {
	n := 0
	for i+n < len(text) && text[i+n] == text[i+n-far] {
		n++
	}
	return n
}
