package segment_test

import (
	"bytes"
	"slices"
	"testing"

	"chronicle/api"
	"chronicle/probe"
	"chronicle/segment"
)

// 5.11
func TestBytesHandedInAreNotChanged(t *testing.T) {
	sealed := string(whole(few(), true))
	for _, text := range []string{"", sealed[:20], sealed[:21], sealed[:40], sealed[:len(sealed)-17], sealed[:len(sealed)-1], sealed, sealed + "x", "x" + sealed} {
		b, same := probe.Roomy(text)
		_, l, _ := segment.Look(b)
		probe.Scribble(append(l, api.Placed{}))
		if !same() {
			t.Errorf("%.30q is changed, or what is behind it", text)
		}
	}
}

// What stands in the room behind the end is not looked at.
func TestRoomBehindTheEndIsNotSeen(t *testing.T) {
	sealed := whole(few(), true)
	for n := range sealed {
		wantSameLook(t, sealed[:n], bytes.Clone(sealed[:n:n]))
	}
}

func wantSameLook(t *testing.T, a, b []byte) {
	t.Helper()
	i, l, s := segment.Look(a)
	j, m, r := segment.Look(b)
	if i != j || s != r || !slices.Equal(l, m) {
		t.Errorf("%d bytes: %v, %v and %v, %v", len(a), i, s, j, r)
	}
}

func TestBytesHandedInAreNotKept(t *testing.T) {
	b := whole(few(), true)
	_, l, _ := segment.Look(b)
	probe.Scribble(b)
	if !slices.Equal(l, placed(few())) {
		t.Errorf("records show what was done to their bytes: %v", l)
	}
}

func TestAnswersAreNewMemory(t *testing.T) {
	b := whole(few(), true)
	_, first, _ := segment.Look(b)
	_, second, _ := segment.Look(b)
	probe.Scribble(first)
	if _, third, _ := segment.Look(b); !slices.Equal(second, placed(few())) || !slices.Equal(third, second) {
		t.Error("Look: an answer shows what was done to another one")
	}
}

// The disk's files are as they are, whatever is done to what was read of them.
func TestRecordsOutliveTheirFile(t *testing.T) {
	d, s := filled(t)
	r, _ := s.Read(21)
	l := walk(s, 0)
	d.Truncate(file, 0)
	d.Append(file, bytes.Repeat([]byte{0}, 200))
	if r != few()[0] || !slices.Equal(l, placed(few())) {
		t.Errorf("records show what was done to their file: %v, %v", r, l)
	}
}

// No segment knows of another one, nor does a package keep anything.
func TestSegmentsStandForThemselves(t *testing.T) {
	d := disk(t)
	s := create(t, d, 256)
	other, _ := segment.Create(d, 3, 8, 0, 256)
	add(t, s, put(10, "a", "x"))
	want(t, "Info of the other", other.Info(), api.SegInfo{Topic: 3, Number: 8, Size: 21, Last: -1})
	add(t, other, put(5, "b", "y"))
	want(t, "Seal", other.Seal(), api.OK)
	wantHolds(t, "the first", s, told([]api.Record{put(10, "a", "x")}, false), []api.Record{put(10, "a", "x")})
	info := s.Info()
	info.Count, info.Size = 9, 9
	want(t, "Info once more", s.Info().Count, 1)
}
