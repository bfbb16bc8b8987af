package hint_test

import (
	"bytes"
	"slices"
	"testing"

	"chronicle/api"
	"chronicle/hint"
	"chronicle/probe"
)

// roomy is a copy of a list with room behind its end, which holds something too, and a check that neither was changed.
func roomy[T comparable](list []T, behind T) ([]T, func() bool) {
	whole := append(slices.Clone(list), behind, behind, behind)
	kept := slices.Clone(whole)
	return whole[:len(list)], func() bool { return slices.Equal(whole, kept) }
}

// 6.8
func TestListsHandedInAreNotChanged(t *testing.T) {
	later := api.Placed{Rec: put(5000, 1, "a", "behind"), Pos: 5000, Len: 20}
	for n := range len(few()) + 1 {
		recs, same := roomy(placed(few())[:n], later)
		h := hint.Of(7, 900, recs)
		wantHint(t, "Of a list with room", h, slowOf(7, 900, placed(few())[:n]))
		probe.Scribble(append(h.Entries, api.HintEntry{}))
		if !same() {
			t.Errorf("Of: a list of %d is changed, or what is behind it", n)
		}
	}
	for n := range len(fewHint().Entries) + 1 {
		h := fewHint()
		entries, same := roomy(h.Entries[:n], api.HintEntry{Key: "z", Off: 1 << 30, Pos: 500, Len: 20})
		h.Entries = entries
		b, e := hint.Encode(h)
		if e != api.OK || !bytes.Equal(b, slowEncode(api.Hint{Seg: 7, Size: h.Size, Entries: fewHint().Entries[:n]})) {
			t.Errorf("%d entries: %x, %d", n, b, e)
		}
		d := disk(t)
		want(t, "Write", hint.Write(d, 3, h), api.OK)
		h.Size = 0
		wantWrong(t, "no size", h)
		want(t, "Write of a wrong hint", hint.Write(d, 4, h), api.ErrHint)
		if !same() {
			t.Errorf("Encode, Write: a list of %d is changed, or what is behind it", n)
		}
	}
}

func TestBytesHandedInAreNotChanged(t *testing.T) {
	text := string(slowEncode(fewHint()))
	for _, s := range []string{"", text[:1], text[:9], text[:20], text[:len(text)-1], text, text + "x", "x" + text} {
		b, same := probe.Roomy(s)
		h, _ := hint.Decode(b)
		probe.Scribble(append(h.Entries, api.HintEntry{}))
		if !same() {
			t.Errorf("%.30q is changed, or what is behind it", s)
		}
	}
}

// What stands in the room behind the end is not looked at.
func TestRoomBehindTheEndIsNotSeen(t *testing.T) {
	b := slowEncode(fewHint())
	for n := range b {
		wantNone(t, "a first part, the rest behind it", b[:n])
	}
	wantBytes(t, "all, and room behind", fewHint(), append(slices.Clone(b), "room"...)[:len(b)])
}

func TestListsHandedInAreNotKept(t *testing.T) {
	recs := placed(few())
	h := hint.Of(7, sizeOf(few()), recs)
	probe.Scribble(recs)
	wantHint(t, "Of", h, fewHint())

	b, _ := hint.Encode(h)
	d := disk(t)
	want(t, "Write", hint.Write(d, 3, h), api.OK)
	probe.Scribble(h.Entries)
	if written, _ := seen(d, hintFile); !bytes.Equal(b, slowEncode(fewHint())) || !bytes.Equal(written, b) {
		t.Errorf("what was written shows what was done to the hint: %x, %x", b, written)
	}

	h, _ = hint.Decode(b)
	probe.Scribble(b)
	wantHint(t, "Decode", h, fewHint())
}

func TestAnswersAreNewMemory(t *testing.T) {
	recs, b, d := placed(few()), slowEncode(fewHint()), both(t)
	bare := both(t)
	bare.Remove(hintFile)
	for what, call := range map[string]func() api.Hint{
		"Of":      func() api.Hint { return hint.Of(7, sizeOf(few()), recs) },
		"Decode":  func() api.Hint { h, _ := hint.Decode(b); return h },
		"Load":    func() api.Hint { h, _ := hint.Load(d, 3, 7); return h },
		"Recover": func() api.Hint { h, _, _ := hint.Recover(d, 3, 7); return h },
		"Recover of a segment": func() api.Hint {
			h, _, _ := hint.Recover(bare, 3, 7)
			return h
		},
	} {
		first, second := call(), call()
		probe.Scribble(first.Entries)
		wantHint(t, what, second, fewHint())
		wantHint(t, what+" once more", call(), fewHint())
	}
	first, _ := hint.Encode(fewHint())
	second, _ := hint.Encode(fewHint())
	probe.Scribble(first)
	third, _ := hint.Encode(fewHint())
	if !bytes.Equal(second, b) || !bytes.Equal(third, b) {
		t.Error("Encode: an answer shows what was done to another one")
	}
}

// What was read of a file is as it was, whatever is done to the file.
func TestHintsOutliveTheirFiles(t *testing.T) {
	d := both(t)
	loaded, _ := hint.Load(d, 3, 7)
	d.Truncate(hintFile, 0)
	d.Append(hintFile, bytes.Repeat([]byte{0}, 300))
	rebuilt, _, _ := hint.Recover(d, 3, 7)
	d.Truncate(segFile, 0)
	d.Append(segFile, bytes.Repeat([]byte{0}, 300))
	wantHint(t, "Load", loaded, fewHint())
	wantHint(t, "Recover", rebuilt, fewHint())
}

// The same is answered each time, in whatever order a map is gone through.
func TestAnswersAreTheSameEachTime(t *testing.T) {
	list := brimful()
	wanted := slowEncode(slowOf(7, 65536, placed(list)))
	for range 20 {
		if b, e := hint.Encode(hint.Of(7, 65536, placed(list))); e != api.OK || !bytes.Equal(b, wanted) {
			t.Fatalf("Encode: %d bytes, %d", len(b), e)
		}
	}
}
