package squeeze_test

import (
	"bytes"
	"math"
	"strings"
	"testing"

	"chronicle/api"
	"chronicle/squeeze"
)

// 2.1
func TestExpand(t *testing.T) {
	for _, c := range []struct {
		name string
		ts   []api.Token
		want string
	}{
		{"none", nil, ""},
		{"an empty list", []api.Token{}, ""},
		{"one literal", []api.Token{lit("abc")}, "abc"},
		{"literals side by side", []api.Token{lit("a"), lit("b")}, "ab"},
		{"a match that is none of the text's own", []api.Token{lit("abcdefg"), match(6, 5)}, "abcdefgbcdef"},
		{"a match of all that there is", []api.Token{lit("abcde"), match(5, 5)}, "abcdeabcde"},
		{"a match into itself", []api.Token{lit("ab"), match(2, 5)}, "abababa"},
		{"a match into itself from the last byte", []api.Token{lit("xa"), match(1, 9)}, "xaaaaaaaaaa"},
		{"a match of matches", []api.Token{lit("ab"), match(2, 5), match(7, 7), lit("-"), match(15, 6)}, "abababaabababa-ababab"},
		{"the longest match", []api.Token{lit("a"), match(1, 258)}, strings.Repeat("a", 259)},
		{"a literal of MaxBlock", []api.Token{lit(strings.Repeat("x", 4096))}, strings.Repeat("x", 4096)},
		{"literals of MaxBlock", []api.Token{lit(strings.Repeat("x", 4095)), lit("y")}, strings.Repeat("x", 4095) + "y"},
		{"a match up to MaxBlock", []api.Token{lit(strings.Repeat("x", 4091)), match(1, 5)}, strings.Repeat("x", 4096)},
		{"a match from Window back", []api.Token{lit("abcde" + strings.Repeat("x", 2043)), match(2048, 5)}, "abcde" + strings.Repeat("x", 2043) + "abcde"},
	} {
		if got, e := squeeze.Expand(c.ts); e != api.OK || string(got) != c.want {
			t.Errorf("%s: %.30q, %d, want %.30q", c.name, got, e, c.want)
		}
	}
}

// wrongTokens has tokens with their errors, each the first that applies.
func wrongTokens() map[string]struct {
	ts   []api.Token
	want api.Errno
} {
	type row = struct {
		ts   []api.Token
		want api.Errno
	}
	long := lit(strings.Repeat("x", 4096))
	wide := lit(strings.Repeat("x", 2050))
	return map[string]row{
		"no token":                         {[]api.Token{{}}, api.ErrToken},
		"no token behind some":             {[]api.Token{lit("a"), {Lit: []byte{}}}, api.ErrToken},
		"a match behind nothing":           {[]api.Token{match(1, 5)}, api.ErrToken},
		"Lit and Len":                      {[]api.Token{{Lit: []byte("a"), Len: 5}}, api.ErrToken},
		"Lit and Dist":                     {[]api.Token{{Lit: []byte("a"), Dist: 1}}, api.ErrToken},
		"Lit and a right match":            {[]api.Token{lit("a"), {Lit: []byte("a"), Dist: 1, Len: 5}}, api.ErrToken},
		"Lit and a negative Len":           {[]api.Token{{Lit: []byte("a"), Len: -1}}, api.ErrToken},
		"Lit and a negative Dist":          {[]api.Token{{Lit: []byte("a"), Dist: -1}}, api.ErrToken},
		"Len below MinMatch":               {[]api.Token{lit("a"), match(1, 4)}, api.ErrToken},
		"Len 0":                            {[]api.Token{lit("a"), match(1, 0)}, api.ErrToken},
		"Len below 0":                      {[]api.Token{lit("a"), match(1, -5)}, api.ErrToken},
		"the least Len":                    {[]api.Token{lit("a"), match(1, math.MinInt)}, api.ErrToken},
		"Len above MaxMatch":               {[]api.Token{lit("a"), match(1, 259)}, api.ErrToken},
		"the greatest Len":                 {[]api.Token{lit("a"), match(1, math.MaxInt)}, api.ErrToken},
		"Dist 0":                           {[]api.Token{lit("a"), match(0, 5)}, api.ErrToken},
		"Dist below 0":                     {[]api.Token{lit("a"), match(-1, 5)}, api.ErrToken},
		"the least Dist":                   {[]api.Token{lit("a"), match(math.MinInt, 5)}, api.ErrToken},
		"Dist above what there is":         {[]api.Token{lit("abc"), match(4, 5)}, api.ErrToken},
		"Dist above what there is, later":  {[]api.Token{lit("a"), match(1, 5), match(7, 5)}, api.ErrToken},
		"Dist above Window":                {[]api.Token{wide, match(2049, 5)}, api.ErrToken},
		"the greatest Dist":                {[]api.Token{wide, match(math.MaxInt, 5)}, api.ErrToken},
		"a literal above MaxBlock":         {[]api.Token{lit(strings.Repeat("x", 4097))}, api.ErrLong},
		"a byte above MaxBlock":            {[]api.Token{long, lit("y")}, api.ErrLong},
		"a match above MaxBlock":           {[]api.Token{lit(strings.Repeat("x", 4092)), match(1, 5)}, api.ErrLong},
		"too long ahead of a wrong one":    {[]api.Token{long, lit("y"), {}}, api.ErrLong},
		"a wrong one ahead of too long":    {[]api.Token{lit("a"), {}, long}, api.ErrToken},
		"a wrong one that is too long":     {[]api.Token{long, match(1, 259)}, api.ErrToken},
		"a long literal that is wrong too": {[]api.Token{{Lit: make([]byte, 5000), Len: 5}}, api.ErrToken},
		"a match that is wrong behind all": {[]api.Token{long, match(2049, 5)}, api.ErrToken},
	}
}

func TestExpandRefuses(t *testing.T) {
	for name, c := range wrongTokens() {
		if got, e := squeeze.Expand(c.ts); e != c.want || len(got) != 0 {
			t.Errorf("%s: %.30q, %d, want %d", name, got, e, c.want)
		}
	}
}

func TestExpandAgainstTheSlowWay(t *testing.T) {
	for seed := range uint64(300) {
		var ts []api.Token
		for _, c := range noise(40, 64, seed) {
			switch {
			case c < 20:
				ts = append(ts, api.Token{Lit: noise(1+int(c), 256, seed)})
			case c < 62:
				ts = append(ts, match(1+int(c)%11, 5+int(c)))
			default:
				ts = append(ts, match(64+int(c), 5)) // too far back, as often as not
			}
		}
		want, wantErr := slowExpand(ts)
		if got, e := squeeze.Expand(ts); e != wantErr || !bytes.Equal(got, want) {
			t.Fatalf("seed %d: %d bytes, %d, want %d, %d", seed, len(got), e, len(want), wantErr)
		}
	}
}

// 2.2
func TestTokens(t *testing.T) {
	for _, c := range []struct {
		name, text string
		want       []api.Token
	}{
		{"none", "", nil},
		{"a byte", "a", []api.Token{lit("a")}},
		{"too few for a match", "aaaaa", []api.Token{lit("aaaaa")}},
		{"just enough for one", "aaaaaa", []api.Token{lit("a"), match(1, 5)}},
		{"a match of MinMatch - 1", "abcdXabcdY", []api.Token{lit("abcdXabcdY")}},
		{"a match of MinMatch", "abcdeXabcdeY", []api.Token{lit("abcdeX"), match(6, 5), lit("Y")}},
		{"a match of MinMatch at the end", "abcdeXabcde", []api.Token{lit("abcdeX"), match(6, 5)}},
		{"four bytes at the end", "abcdeXabcd", []api.Token{lit("abcdeXabcd")}},
		{"a match of MaxMatch", strings.Repeat("a", 259), []api.Token{lit("a"), match(1, 258)}},
		{"one more", strings.Repeat("a", 260), []api.Token{lit("a"), match(1, 258), lit("a")}},
		{"five more", strings.Repeat("a", 264), []api.Token{lit("a"), match(1, 258), match(1, 5)}},
		{"into itself", "abcabcabc", []api.Token{lit("abc"), match(3, 6)}},
		{"the least of several distances", "abcdeXabcdeYabcdeZ", []api.Token{lit("abcdeX"), match(6, 5), lit("Y"), match(6, 5), lit("Z")}},
		{"the longest, if it is farther too", "abcdeXabcdeYabcdeX", []api.Token{lit("abcdeX"), match(6, 5), lit("Y"), match(12, 6)}},
		{"the least distance of the longest", "abcdefX-abcdefX_abcdeYabcdefX", []api.Token{lit("abcdefX-"), match(8, 7), lit("_"), match(8, 5), lit("Y"), match(14, 7)}},
		{"a match out of a match", "abcdefghXabcdefghYefghYZ", []api.Token{lit("abcdefghX"), match(9, 8), lit("Y"), match(5, 5), lit("Z")}},
		{"a match out of a match and into itself", "abcdefX_abcdefY_defY_defY!", []api.Token{lit("abcdefX_"), match(8, 6), lit("Y_"), match(5, 9), lit("!")}},
	} {
		got, e := squeeze.Tokens([]byte(c.text))
		if e != api.OK || !sameTokens(got, c.want) {
			t.Errorf("%s: Tokens(%.40q) = %v, %d, want %v", c.name, c.text, got, e, c.want)
		}
	}
}

func TestTokensAtEdgesOfMatches(t *testing.T) {
	for _, dist := range []int{5, 6, 100, 257, 258, 259, 2047, 2048, 2049, 2050, 3000} {
		for _, length := range []int{4, 5, 6, 63, 64, 257, 258, 259, 262} {
			text, rest := repeatAt(dist, length)
			head, tail := text[:dist], text[dist:]
			want := []api.Token{{Lit: head}, match(dist, length), {Lit: rest}}
			if length > api.MaxMatch { // what is left of the repeated bytes is too few for a second match
				want = []api.Token{{Lit: head}, match(dist, 258), {Lit: tail[258:]}}
			}
			if dist > api.Window || length < api.MinMatch {
				want = []api.Token{{Lit: text}}
			}
			if got, e := squeeze.Tokens(text); e != api.OK || !sameTokens(got, want) {
				t.Errorf("%d bytes from %d back: %.200v, %d", length, dist, got, e)
			}
		}
	}
}

func TestTokensAgainstTheSlowWay(t *testing.T) {
	for i, text := range texts() {
		want := slowTokens(text)
		if got, e := squeeze.Tokens(text); e != api.OK || !sameTokens(got, want) {
			t.Errorf("text %d, %.40q of %d bytes: %d tokens, %d, want %d", i, text, len(text), len(got), e, len(want))
		}
	}
	for seed := range uint64(2000) { // short texts of few letters have all the shapes there are
		text := noise(int(seed%60), 2+int(seed%3), seed)
		if got, e := squeeze.Tokens(text); e != api.OK || !sameTokens(got, slowTokens(text)) {
			t.Fatalf("%q: %v, %d, want %v", text, got, e, slowTokens(text))
		}
	}
}

// 2.3
func TestTokensOfLongTexts(t *testing.T) {
	for _, n := range []int{4095, 4096, 4097, 5000, 1 << 20} {
		want := api.OK
		if n > 4096 {
			want = api.ErrLong
		}
		for _, text := range [][]byte{make([]byte, n), records(n)} {
			got, e := squeeze.Tokens(text)
			if e != want || (e == api.OK) != (len(got) > 0) {
				t.Errorf("%d bytes: %d tokens, %d, want %d", n, len(got), e, want)
			}
		}
	}
}

func TestTokensAddUpToTheText(t *testing.T) {
	for i, text := range texts() {
		ts, _ := squeeze.Tokens(text)
		if got, e := squeeze.Expand(ts); e != api.OK || !bytes.Equal(got, text) {
			t.Errorf("text %d: its tokens add up to %.30q, %d, want %.30q", i, got, e, text)
		}
		at := 0
		for k, token := range ts {
			if k > 0 && len(token.Lit) > 0 && len(ts[k-1].Lit) > 0 {
				t.Errorf("text %d: literals side by side at %d", i, at)
			}
			for j := range token.Lit {
				if dist, length := slowMatch(text, at+j); length > 0 {
					t.Errorf("text %d: a literal's byte at %d, where a match of %d from %d back might begin", i, at+j, length, dist)
				}
			}
			at += len(token.Lit) + token.Len
		}
	}
}
