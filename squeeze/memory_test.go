package squeeze_test

import (
	"bytes"
	"testing"

	"chronicle/api"
	"chronicle/probe"
	"chronicle/squeeze"
)

// scribbleTokens writes over a list of tokens and over their literals, and behind them.
func scribbleTokens(ts []api.Token) {
	ts = ts[:cap(ts)]
	for i := range ts {
		probe.Scribble(ts[i].Lit)
		ts[i] = api.Token{Dist: 99, Len: 99}
	}
}

const (
	sample = "abcdeXabcdeYabcdeX"
	packed = "\x12\x0cabcdeX\x0b\x06\x02Y\x0d\x0c"
)

// 2.10
func TestBytesHandedInAreNotChanged(t *testing.T) {
	for name, use := range map[string]func(b []byte){
		"Encode": func(b []byte) { x, _ := squeeze.Encode(b); probe.Scribble(x) },
		"Decode": func(b []byte) { x, _ := squeeze.Decode(b); probe.Scribble(x) },
		"Tokens": func(b []byte) { ts, _ := squeeze.Tokens(b); scribbleTokens(ts) },
		"Read":   func(b []byte) { ts, _ := squeeze.Read(b); scribbleTokens(ts) },
	} {
		for _, text := range []string{sample, packed, "", "\x05\x0aaaaa", "\x06\x02a\x0b\x01\x00"} {
			b, same := probe.Roomy(text)
			if use(b); !same() {
				t.Errorf("%s changes %q, or what is behind it", name, text)
			}
		}
	}
}

func TestTokensHandedInAreNotChanged(t *testing.T) {
	for name, use := range map[string]func(ts []api.Token){
		"Expand": func(ts []api.Token) { x, _ := squeeze.Expand(ts); probe.Scribble(x) },
		"Write":  func(ts []api.Token) { x, _ := squeeze.Write(ts); probe.Scribble(x) },
	} {
		first, sameFirst := probe.Roomy("abcdeX")
		second, sameSecond := probe.Roomy("Y")
		whole := []api.Token{{Lit: first}, match(6, 5), {Lit: second}, match(12, 6), {Lit: []byte("behind"), Len: 7}}
		use(whole[:4])
		use(whole) // with a wrong one at the end
		want := []api.Token{lit("abcdeX"), match(6, 5), lit("Y"), match(12, 6), {Lit: []byte("behind"), Len: 7}}
		if !sameTokens(whole, want) || !sameFirst() || !sameSecond() {
			t.Errorf("%s changes the tokens, or what is behind them", name)
		}
	}
}

func TestNothingHandedInIsKept(t *testing.T) {
	text, block := []byte(sample), []byte(packed)
	ts := []api.Token{lit("abcdeX"), match(6, 5), lit("Y"), match(12, 6)}
	want := []api.Token{lit("abcdeX"), match(6, 5), lit("Y"), match(12, 6)}
	encoded, _ := squeeze.Encode(text)
	tokens, _ := squeeze.Tokens(text)
	decoded, _ := squeeze.Decode(block)
	read, _ := squeeze.Read(block)
	expanded, _ := squeeze.Expand(ts)
	written, _ := squeeze.Write(ts)
	probe.Scribble(text)
	probe.Scribble(block)
	scribbleTokens(ts)
	if string(encoded) != packed || string(written) != packed {
		t.Errorf("a block shows it: %q, %q", encoded, written)
	}
	if string(decoded) != sample || string(expanded) != sample {
		t.Errorf("a text shows it: %q, %q", decoded, expanded)
	}
	if !sameTokens(tokens, want) || !sameTokens(read, want) {
		t.Errorf("tokens show it: %v, %v", tokens, read)
	}
}

func TestOneLiteralIsNotKept(t *testing.T) {
	b := []byte("abc")
	x, _ := squeeze.Expand([]api.Token{{Lit: b}})
	probe.Scribble(b)
	if string(x) != "abc" {
		t.Errorf("the text of one literal shows what was done to it: %q", x)
	}
}

func TestLiteralsShareNoMemory(t *testing.T) {
	for name, ask := range map[string]func() ([]api.Token, api.Errno){
		"Tokens": func() ([]api.Token, api.Errno) { return squeeze.Tokens([]byte("abcdeXabcdeYabcdeZ")) },
		"Read": func() ([]api.Token, api.Errno) {
			return squeeze.Read([]byte("\x12\x0cabcdeX\x0b\x06\x02Y\x0b\x06\x02Z"))
		},
	} {
		want := []api.Token{lit("abcdeX"), match(6, 5), lit("Y"), match(6, 5), lit("Z")}
		for changed := range want {
			got, _ := ask()
			if !sameTokens(got, want) {
				t.Fatalf("%s: %v", name, got)
			}
			probe.Scribble(got[changed].Lit)
			_ = append(got[changed].Lit, "written behind"...)
			for i := range got {
				if i != changed && !bytes.Equal(got[i].Lit, want[i].Lit) {
					t.Errorf("%s: written into literal %d, and %d shows it", name, changed, i)
				}
			}
		}
	}
}

func TestWhatIsHandedOutIsNew(t *testing.T) {
	for name, ask := range map[string]func() []byte{
		"Encode": func() []byte { x, _ := squeeze.Encode([]byte(sample)); return x },
		"Decode": func() []byte { x, _ := squeeze.Decode([]byte(packed)); return x },
		"Expand": func() []byte { x, _ := squeeze.Expand([]api.Token{lit("abc"), match(3, 9)}); return x },
		"Write":  func() []byte { x, _ := squeeze.Write([]api.Token{lit("abc"), match(3, 9)}); return x },
		"none":   func() []byte { x, _ := squeeze.Encode(nil); return x },
	} {
		first := ask()
		kept := bytes.Clone(first)
		if probe.Scribble(first); !bytes.Equal(ask(), kept) {
			t.Errorf("%s: a later answer shows what was done to an earlier one", name)
		}
	}
}
