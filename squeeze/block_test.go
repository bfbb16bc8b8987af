package squeeze_test

import (
	"bytes"
	"runtime"
	"slices"
	"strings"
	"testing"

	"chronicle/api"
	"chronicle/squeeze"
)

// 2.4
func TestWriteOfEdges(t *testing.T) {
	long := strings.Repeat("x", 4096)
	for _, c := range []struct {
		name string
		ts   []api.Token
		want string
	}{
		{"none", nil, "\x00"},
		{"a byte", []api.Token{lit("a")}, "\x01\x02a"},
		{"a byte 0", []api.Token{lit("\x00")}, "\x01\x02\x00"},
		{"literals side by side", []api.Token{lit("a"), lit("b")}, "\x02\x02a\x02b"},
		{"the longest literal whose length takes one byte", []api.Token{lit(long[:63])}, "\x3f\x7e" + long[:63]},
		{"one more", []api.Token{lit(long[:64])}, "\x40\x80\x01" + long[:64]},
		{"a literal of MaxBlock", []api.Token{lit(long)}, "\x80\x20\x80\x40" + long},
		{"a match", []api.Token{lit("ab"), match(2, 5)}, "\x07\x04ab\x0b\x02"},
		{"a match of 63", []api.Token{lit("a"), match(1, 63)}, "\x40\x02a\x7f\x01"},
		{"a match of 64", []api.Token{lit("a"), match(1, 64)}, "\x41\x02a\x81\x01\x01"},
		{"a match of MaxMatch", []api.Token{lit("a"), match(1, 258)}, "\x83\x02\x02a\x85\x04\x01"},
		{"from 127 back", []api.Token{lit(long[:128]), match(127, 5)}, "\x85\x01\x80\x02" + long[:128] + "\x0b\x7f"},
		{"from 128 back", []api.Token{lit(long[:128]), match(128, 5)}, "\x85\x01\x80\x02" + long[:128] + "\x0b\x80\x01"},
		{"from Window back", []api.Token{lit(long[:2048]), match(2048, 5)}, "\x85\x10\x80\x20" + long[:2048] + "\x0b\x80\x10"},
	} {
		got, e := squeeze.Write(c.ts)
		if e != api.OK || string(got) != c.want {
			t.Errorf("%s: %.20x, %d, want %.20x", c.name, got, e, c.want)
		}
		if ts, e := squeeze.Read([]byte(c.want)); e != api.OK || !sameTokens(ts, c.ts) {
			t.Errorf("%s: read back: %.100v, %d", c.name, ts, e)
		}
	}
}

// 2.5
func TestWriteRefuses(t *testing.T) {
	for name, c := range wrongTokens() {
		if got, e := squeeze.Write(c.ts); e != c.want || len(got) != 0 {
			t.Errorf("%s: %.20x, %d, want %d", name, got, e, c.want)
		}
	}
}

func TestWriteAgainstTheSlowWay(t *testing.T) {
	for i, text := range texts() {
		own := slowTokens(text)
		single := make([]api.Token, len(text))
		for k := range text {
			single[k].Lit = text[k : k+1]
		}
		for _, ts := range [][]api.Token{own, single} {
			b, e := squeeze.Write(ts)
			if e != api.OK || !bytes.Equal(b, slowBlock(ts)) {
				t.Errorf("text %d: %d tokens: %.20x, %d, want %.20x", i, len(ts), b, e, slowBlock(ts))
			}
			if back, e := squeeze.Read(b); e != api.OK || !sameTokens(back, ts) {
				t.Errorf("text %d: %d tokens read back: %d, %d", i, len(ts), len(back), e)
			}
		}
	}
}

// wrongBlocks has bytes that are the block of no tokens.
func wrongBlocks() map[string]string {
	long := strings.Repeat("x", 4097)
	great := "\xff\xff\xff\xff\xff\xff\xff\xff\xff\x01" // 2^64 - 1
	return map[string]string{
		"none":                                "",
		"the length, cut":                     "\x80",
		"the length in two bytes, 0":          "\x80\x00",
		"the length in two bytes":             "\x86\x00\x02a\x0b\x01",
		"the length above 64 bits":            "\xff\xff\xff\xff\xff\xff\xff\xff\xff\x02",
		"the greatest length":                 great,
		"the greatest length and a byte":      great + "\x02a",
		"a length alone":                      "\x05",
		"a length above MaxBlock":             "\x81\x20\x82\x40" + long,
		"2^32 and 1 for 1":                    "\x81\x80\x80\x80\x10\x02a",
		"a literal of none":                   "\x00\x00",
		"a literal of none behind one":        "\x01\x02a\x00",
		"a literal of none ahead of one":      "\x01\x00\x02a",
		"a literal, cut":                      "\x05\x0aaaaa",
		"a literal with no bytes":             "\x01\x02",
		"a literal's length, cut":             "\x40\x80",
		"a literal's length in two bytes":     "\x01\x82\x00a",
		"a literal longer than the text":      "\x01\x04ab",
		"a literal shorter than the text":     "\x02\x02a",
		"a literal of 2^62":                   "\x01\x80\x80\x80\x80\x80\x80\x80\x80\x80\x01a",
		"a literal of 2^63 - 1":               "\x01\xfe\xff\xff\xff\xff\xff\xff\xff\xff\x01a",
		"a literal of 2^31":                   "\x01\x80\x80\x80\x80\x10a",
		"a match behind nothing":              "\x05\x0b\x01",
		"a match from 0 back":                 "\x06\x02a\x0b\x00",
		"a match from ahead of the text":      "\x06\x02a\x0b\x02",
		"a match from above Window back":      "\x85\x10\x82\x20" + long[:2049] + "\x0b\x81\x10",
		"a match from 2^63 back":              "\x06\x02a\x0b\x80\x80\x80\x80\x80\x80\x80\x80\x80\x01",
		"a match from 2^64 - 1 back":          "\x06\x02a\x0b" + great,
		"a match from 2^32 and 1 back":        "\x06\x02a\x0b\x81\x80\x80\x80\x10",
		"a match with no distance":            "\x06\x02a\x0b",
		"a match's distance, cut":             "\x06\x02a\x0b\x81",
		"a match's length in two bytes":       "\x06\x02a\x8b\x00\x01",
		"a match's distance in two bytes":     "\x06\x02a\x0b\x81\x00",
		"a match of 4":                        "\x05\x02a\x09\x01",
		"a match of 0":                        "\x01\x02a\x01\x01",
		"a match of 259":                      "\x84\x02\x02a\x87\x04\x01",
		"a match of 2^63 - 1":                 "\x06\x02a" + great + "\x01",
		"a match longer than the text":        "\x06\x02a\x0d\x01",
		"a match shorter than the text":       "\x07\x02a\x0b\x01",
		"a byte left over":                    "\x06\x02a\x0b\x01\x00",
		"a token left over":                   "\x06\x02a\x0b\x01\x02b",
		"a match left over":                   "\x06\x02a\x0b\x01\x0b\x01",
		"bytes behind the empty text":         "\x00\x02a",
		"a text longer than MaxBlock":         "\x81\x20\x80\x40" + long[:4096] + "\x02x",
		"as long as said without what is cut": "\x03\x02a\x02b\x02",
	}
}

// 2.6
func TestReadRefuses(t *testing.T) {
	for name, b := range wrongBlocks() {
		if ts, e := squeeze.Read([]byte(b)); e != api.ErrBlock || len(ts) != 0 {
			t.Errorf("%s: Read(%.20x) = %.60v, %d", name, b, ts, e)
		}
	}
	if ts, e := squeeze.Read(nil); e != api.ErrBlock || len(ts) != 0 {
		t.Errorf("Read(nil) = %v, %d", ts, e)
	}
}

// smallBlocks adds the blocks of all lists of right tokens that begin with ts and whose tokens take at most so many bytes, their bytes out of these letters.
func smallBlocks(set map[string]int, ts []api.Token, most int, letters []byte) {
	b := slowBlock(ts)
	set[string(b)] = len(ts)
	n := 0
	for _, token := range ts {
		n += len(token.Lit) + token.Len
	}
	if most < 2 {
		return
	}
	for _, length := range []int{5, 6} {
		for dist := 1; dist <= n; dist++ {
			smallBlocks(set, append(slices.Clip(ts), match(dist, length)), most-2, letters)
		}
	}
	texts := []string{""}
	for size := 1; size < most; size++ {
		var longer []string
		for _, text := range texts {
			for _, c := range letters {
				longer = append(longer, text+string([]byte{c}))
			}
		}
		for _, text := range longer {
			smallBlocks(set, append(slices.Clip(ts), lit(text)), most-1-size, letters)
		}
		texts = longer
	}
}

func TestReadOfAllSmallBlocks(t *testing.T) {
	letters := []byte{0, 1, 2, 3, 4, 6, 7, 8, 11, 13, 0x80}
	set := map[string]int{}
	smallBlocks(set, nil, 4, letters)
	var each func(b []byte)
	taken := 0
	each = func(b []byte) {
		count, is := set[string(b)]
		ts, e := squeeze.Read(b)
		if is && (e != api.OK || len(ts) != count) || !is && (e != api.ErrBlock || len(ts) != 0) {
			t.Errorf("Read(%x) = %v, %d; that it is a block: %v", b, ts, e, is)
		}
		if is {
			taken++
		}
		if len(b) < 5 {
			for _, c := range letters {
				each(append(slices.Clip(b), c))
			}
		}
	}
	each(nil)
	if taken < 1000 {
		t.Errorf("only %d of them are blocks", taken)
	}
}

// damaged hands each block that differs from b in one byte, is cut, or has one more byte.
func damaged(b []byte, use func(b []byte)) {
	for i := range b {
		use(b[:i])
		for _, d := range []byte{1, 2, 4, 0x10, 0x40, 0x80, 0xff, b[i]} {
			c := slices.Clone(b)
			c[i] ^= d
			use(c)
		}
		use(slices.Insert(slices.Clone(b), i, 0))
		use(slices.Delete(slices.Clone(b), i, i+1))
	}
	use(append(slices.Clip(b), 0))
	use(append(slices.Clip(b), 2, 'a'))
}

func TestReadOfDamagedBlocks(t *testing.T) {
	for _, text := range [][]byte{nil, []byte("a"), []byte("abcdeXabcdeYabcdeX"), bytes.Repeat([]byte("a"), 600), records(400), noise(300, 2, 5), noise(200, 256, 6)} {
		damaged(slowBlock(slowTokens(text)), func(b []byte) {
			want, is := slowRead(b)
			ts, e := squeeze.Read(b)
			if (e == api.OK) != is || !is && e != api.ErrBlock || !sameTokens(ts, want) {
				t.Fatalf("Read(%x) = %v, %d, want %v, %v", b, ts, e, want, is)
			}
		})
	}
}

func TestReadOfCutBlocks(t *testing.T) {
	for i, text := range texts() {
		b := slowBlock(slowTokens(text))
		for n := 0; n < len(b); n += 1 + len(b)/100 {
			if ts, e := squeeze.Read(b[:n]); e != api.ErrBlock || len(ts) != 0 {
				t.Fatalf("text %d, the first %d bytes of its block: %d tokens, %d", i, n, len(ts), e)
			}
		}
	}
}

// made tells how many bytes of memory a call asks for.
func made(call func()) uint64 {
	var before, after runtime.MemStats
	runtime.ReadMemStats(&before)
	call()
	runtime.ReadMemStats(&after)
	return after.TotalAlloc - before.TotalAlloc
}

// 2.8
func TestLongBlocksMakeLittle(t *testing.T) {
	const bound = 1 << 22 // room for some lists of MaxBlock tokens, and far below the blocks
	behind := bytes.Repeat([]byte{2}, 1<<24)
	for name, head := range map[string]string{
		"a text":                 "\x06\x02a\x0b\x01",
		"tokens without an end":  "\x80\x20",
		"a literal of 2^23":      "\x80\x20\x80\x80\x80\x08",
		"a text of 2^23":         "\x80\x80\x80\x04\x80\x80\x80\x08",
		"a text of 2^63":         "\x80\x80\x80\x80\x80\x80\x80\x80\x80\x01",
		"an end within a number": "\x80\x20\x80\x80\x80\x80\x80\x80",
	} {
		b := append([]byte(head), behind...)
		if n := made(func() {
			if x, e := squeeze.Decode(b); e != api.ErrBlock || len(x) != 0 {
				t.Errorf("%s: %d bytes, %d", name, len(x), e)
			}
			if ts, e := squeeze.Read(b); e != api.ErrBlock || len(ts) != 0 {
				t.Errorf("%s: %d tokens, %d", name, len(ts), e)
			}
		}); n > bound {
			t.Errorf("%s: %d bytes are made", name, n)
		}
	}
}
