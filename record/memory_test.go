package record_test

import (
	"bytes"
	"slices"
	"testing"

	"chronicle/api"
	"chronicle/probe"
	"chronicle/record"
)

// roomyRecords is a copy of l with room behind its end, which holds other records, and a check that neither was changed.
func roomyRecords(l []api.Record) ([]api.Record, func() bool) {
	whole := append(slices.Clone(l), value(99, 99, "a", "behind"), tomb(98, 98, "b"), api.Record{})
	kept := slices.Clone(whole)
	return whole[:len(l)], func() bool { return slices.Equal(whole, kept) }
}

func sampleList() []api.Record {
	return []api.Record{value(0, 0, "b", "1"), value(1, 0, "a", "aaaaaaaaa"), tomb(2, 10, "b"), value(3, 11, "c", "3"), value(4, 12, "b", "4")}
}

// 4.8
func TestBytesHandedInAreNotChanged(t *testing.T) {
	whole := string(row(sampleList()...))
	for _, text := range []string{whole, whole[:len(whole)-1], "x" + whole, whole + whole, "\xa9\x00", string(framed([]byte("\x02\x05\x05\x01kaaaaaa"))), ""} {
		b, same := probe.Roomy(text)
		record.Decode(b)
		l, _, _ := record.Scan(b)
		probe.Scribble(l)
		probe.Scribble(record.Salvage(b))
		if !same() {
			t.Errorf("%.30q is changed, or what is behind it", text)
		}
	}
}

func TestBytesHandedInAreNotKept(t *testing.T) {
	want := sampleList()
	b := row(want...)
	r, _, _ := record.Decode(b)
	l, _, _ := record.Scan(b)
	found := record.Salvage(b)
	probe.Scribble(b)
	if r != want[0] || !slices.Equal(l, want) {
		t.Errorf("records show what was done to their bytes: %v, %v", r, l)
	}
	for i, f := range found {
		if f.Rec != want[i] {
			t.Errorf("what was found shows it: %v", f)
		}
	}
}

func TestListsHandedInAreNotChanged(t *testing.T) {
	for _, list := range [][]api.Record{sampleList(), right(), append(sampleList(), api.Record{}), nil} {
		for name, use := range map[string]func(l []api.Record) []api.Record{
			"Fold":            record.Fold,
			"Compact":         func(l []api.Record) []api.Record { kept, _ := record.Compact(l, 15, 5); return kept },
			"Compact of none": func(l []api.Record) []api.Record { kept, _ := record.Compact(l, -1, 5); return kept },
		} {
			l, same := roomyRecords(list)
			probe.Scribble(use(l))
			got := append(use(l), value(1, 1, "x", "x"))
			if !same() {
				t.Errorf("%s changes the list, or what is behind it", name)
			}
			want := slices.Clone(got)
			if probe.Scribble(l); !slices.Equal(got, want) {
				t.Errorf("%s: the answer shows what was done to the list", name)
			}
		}
	}
}

// A list of which all is kept, in its order, is answered as another one all the same.
func TestAnswersAreNewMemory(t *testing.T) {
	l := []api.Record{value(0, 0, "a", "1"), value(1, 0, "b", "2")}
	for name, ask := range map[string]func() []api.Record{
		"Fold":    func() []api.Record { return record.Fold(l) },
		"Compact": func() []api.Record { kept, _ := record.Compact(l, 0, 0); return kept },
		"Scan":    func() []api.Record { got, _, _ := record.Scan(row(l...)); return got },
	} {
		first := ask()
		probe.Scribble(first)
		if second := ask(); !slices.Equal(second, []api.Record{value(0, 0, "a", "1"), value(1, 0, "b", "2")}) {
			t.Errorf("%s: a later answer shows what was done to an earlier one", name)
		}
	}
	one, _ := record.Encode(l[0])
	two, _ := record.Encode(l[0])
	probe.Scribble(one)
	if three, _ := record.Encode(l[0]); !bytes.Equal(two, slowEncode(l[0])) || !bytes.Equal(three, two) {
		t.Error("Encode: an answer shows what was done to another one")
	}
	found, again := record.Salvage(row(l...)), record.Salvage(row(l...))
	probe.Scribble(found)
	if again[0].Rec != l[0] || again[1].Rec != l[1] {
		t.Error("Salvage: an answer shows what was done to another one")
	}
}
