package octet_test

import (
	"bytes"
	"slices"
	"testing"

	"chronicle/api"
	"chronicle/octet"
	"chronicle/probe"
)

// 1.14
func TestNothingHandedInIsChanged(t *testing.T) {
	for name, use := range map[string]func(b []byte){
		"ReadUvarint": func(b []byte) { octet.ReadUvarint(b) },
		"Sum":         func(b []byte) { octet.Sum(b) },
		"Extend":      func(b []byte) { octet.Extend(1, b) },
		"Patch":       func(b []byte) { probe.Scribble(octet.Patch(b, 1)) },
		"Unpack":      func(b []byte) { octet.Unpack([]int{api.IBytes}, 9, b) },
		"Writer.Raw": func(b []byte) {
			w := octet.NewWriter()
			w.Raw(b)
			w.Byte(1)
			probe.Scribble(w.Bytes())
		},
		"Reader": func(b []byte) {
			r := octet.NewReader(b)
			probe.Scribble(r.Raw(2))
			probe.Scribble(r.Raw(1))
			r.Text(9)
			r.Fail(api.ErrKind)
		},
	} {
		b, same := probe.Roomy("\x03abc")
		if use(b); !same() {
			t.Errorf("%s changes what it was handed", name)
		}
	}
}

func TestListsHandedInAreNotChanged(t *testing.T) {
	items := []api.Item{{Kind: api.IByte, N: 1}, {Kind: api.IBytes, B: "a"}, {Kind: 99}}
	kinds := []int{api.IByte, api.IBytes, 99}
	keptItems, keptKinds := slices.Clone(items), slices.Clone(kinds)
	b, _ := octet.Pack(items[:2])
	octet.Pack(items)
	got, _ := octet.Unpack(kinds[:2], 9, b)
	octet.Unpack(kinds, 9, b)
	_ = append(got, api.Item{Kind: 55})
	if !slices.Equal(items, keptItems) || !slices.Equal(kinds, keptKinds) {
		t.Error("a list is changed")
	}
}

func TestNothingHandedInIsKept(t *testing.T) {
	b := []byte("\x03abc\x02de")
	w := octet.NewWriter()
	w.Raw(b)
	r := octet.NewReader(b)
	items, _ := octet.Unpack([]int{api.IBytes, api.IBytes}, 9, b)
	probe.Scribble(b)
	if string(w.Bytes()) != "\x03abc\x02de" {
		t.Errorf("the writer shows it: %q", w.Bytes())
	}
	if r.Text(9) != "abc" || r.Text(9) != "de" || r.End() != (api.Spot{}) {
		t.Error("the reader shows it")
	}
	if items[0].B != "abc" || items[1].B != "de" {
		t.Errorf("the items show it: %v", items)
	}
}

func TestWhatIsHandedOutIsNew(t *testing.T) {
	for name, ask := range map[string]func() []byte{
		"Uvarint": func() []byte { return octet.Uvarint(300) },
		"Patch":   func() []byte { return octet.Patch([]byte("abc"), 7) },
		"Pack":    func() []byte { b, _ := octet.Pack([]api.Item{{Kind: api.IBytes, B: "abc"}}); return b },
	} {
		first := ask()
		kept := bytes.Clone(first)
		if probe.Scribble(first); !bytes.Equal(ask(), kept) {
			t.Errorf("%s: a later answer shows what was done to an earlier one", name)
		}
	}
}

func TestWriterHandsOutNewMemory(t *testing.T) {
	w := octet.NewWriter()
	for range 40 {
		w.Byte(7)
		first, second := w.Bytes(), w.Bytes()
		probe.Scribble(first)
		if want := bytes.Repeat([]byte{7}, w.Len()); !bytes.Equal(second, want) || !bytes.Equal(w.Bytes(), want) {
			t.Fatalf("written into an answer of %d bytes, and it is to be seen", w.Len())
		}
	}
	before := w.Bytes()
	w.Raw([]byte{1, 2, 3})
	if !bytes.Equal(before, bytes.Repeat([]byte{7}, 40)) {
		t.Error("an answer changes as the writer goes on")
	}
}

func TestReaderHandsOutNewMemory(t *testing.T) {
	r := octet.NewReader([]byte("abcdef"))
	first := r.Raw(2)
	probe.Scribble(first)
	_ = append(first, "XXXX"...)
	second := r.Raw(2)
	probe.Scribble(first)
	if string(second) != "cd" || string(r.Raw(2)) != "ef" {
		t.Errorf("written into an answer, and later ones show it: %q", second)
	}
}
