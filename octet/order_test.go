package octet_test

import (
	"strings"
	"testing"

	"chronicle/octet"
)

// texts has all texts of at most three of some bytes: low, high, and beginnings and ends of runes, whole ones among them.
func texts() []string {
	list := []string{""}
	last := list
	for range 3 {
		var longer []string
		for _, s := range last {
			for _, c := range []byte{0, 'a', 'b', 0x80, 0xbf, 0xc3, 0xe2, 0xef, 0xfe, 0xff} {
				longer = append(longer, s+string([]byte{c}))
			}
		}
		list, last = append(list, longer...), longer
	}
	return append(list, "é", "€", "😀", "😁", "a😀b", "a😀c", "\uFFFD", "\uFFFDa", "日本語", "日本", "日本語\xff")
}

// slowCompare compares lists of bytes, one by one.
func slowCompare(a, b []byte) int {
	switch {
	case len(a) == 0 && len(b) == 0:
		return 0
	case len(a) == 0:
		return -1
	case len(b) == 0:
		return 1
	case a[0] < b[0]:
		return -1
	case a[0] > b[0]:
		return 1
	}
	return slowCompare(a[1:], b[1:])
}

// 1.8
func TestCompare(t *testing.T) {
	list := texts()
	for _, a := range list {
		for _, b := range list {
			if got, want := octet.Compare(a, b), slowCompare([]byte(a), []byte(b)); got != want {
				t.Fatalf("Compare(%q, %q) = %d, want %d", a, b, got, want)
			}
		}
	}
}

func TestCompareOfBytesThatAreNoRunes(t *testing.T) {
	// All of these are the same as runes, and all unlike as bytes.
	list := []string{"\x80", "\xc3", "\xef\xbf\xbd", "\xfe", "\xff"}
	for i, a := range list {
		for j, b := range list {
			if got, want := octet.Compare("k"+a, "k"+b), slowCompare([]byte{byte(i)}, []byte{byte(j)}); got != want {
				t.Errorf("Compare(%q, %q) = %d, want %d", a, b, got, want)
			}
		}
	}
	if octet.Compare("\xff", "a") != 1 || octet.Compare("a", "\xff") != -1 {
		t.Error("255 is above all")
	}
}

func TestCompareOfLongTexts(t *testing.T) {
	long := strings.Repeat("日é a\xff", 500)
	if octet.Compare(long, long) != 0 || octet.Compare(long, long+"\x00") != -1 || octet.Compare(long+"\x00", long) != 1 {
		t.Error("a text and what begins with it")
	}
	for i := range len(long) {
		b := []byte(long)
		b[i]++ // 255 wraps round to 0
		want := -1
		if b[i] == 0 {
			want = 1
		}
		if octet.Compare(long, string(b)) != want || octet.Compare(string(b), long) != -want {
			t.Fatalf("unlike at %d", i)
		}
	}
}

// 1.9
func TestAfter(t *testing.T) {
	for _, c := range []struct {
		prefix, want string
		ok           bool
	}{
		{"ab", "ac", true},
		{"a\xff", "b", true},
		{"a\xff\xff\xff", "b", true},
		{"\xffa\xff", "\xffb", true},
		{"\x00", "\x01", true},
		{"\xfe", "\xff", true},
		{"a\x7f", "a\x80", true},
		{"é", "\xc3\xaa", true},
		{"", "", false},
		{"\xff", "", false},
		{"\xff\xff\xff", "", false},
		{strings.Repeat("\xff", 5000), "", false},
	} {
		if got, ok := octet.After(c.prefix); got != c.want || ok != c.ok {
			t.Errorf("After(%q) = %q, %v", c.prefix, got, ok)
		}
	}
}

func TestAfterBoundsWhatBeginsSo(t *testing.T) {
	list := texts()
	for _, p := range list {
		above, ok := octet.After(p)
		if allHighest := strings.ReplaceAll(p, "\xff", "") == ""; ok == allHighest {
			t.Fatalf("After(%q): %v", p, ok)
		}
		if !ok {
			continue
		}
		for _, x := range list {
			within := octet.Compare(p, x) <= 0 && octet.Compare(x, above) < 0
			if within != strings.HasPrefix(x, p) {
				t.Fatalf("prefix %q, After %q, text %q: %v", p, above, x, within)
			}
		}
	}
}
