package segment_test

import (
	"bytes"
	"fmt"
	"slices"
	"testing"

	"chronicle/api"
	"chronicle/segment"
	"chronicle/simfs"
)

// history is what was done to a segment and answered OK.
type history struct {
	taken   []api.Record // appended
	durable int          // how many of them stood ahead of the last Sync or Seal
	sealed  bool         // its tail was written
	shut    bool         // and Seal answered OK
}

// run does a script on a segment: a appends the next record, y syncs, s seals, o opens it anew.
func run(s *segment.Segment, d *simfs.Disk, script string) history {
	var h history
	list := []api.Record{put(10, "a", "x"), gone(12, "a"), put(13, "b", "yyyyyyyyy"), put(14, "c", ""), put(20, "a", "z")}
	for _, c := range script {
		synced := false
		switch c {
		case 'a':
			if _, e := s.Append(list[len(h.taken)]); e == api.OK {
				h.taken = list[:len(h.taken)+1]
			}
		case 'y':
			synced = s.Sync() == api.OK
		case 's':
			synced = s.Seal() == api.OK
			h.shut = h.shut || synced
		case 'o':
			if again, e := segment.Open(d, 3, 7, 65536); e == api.OK {
				s, synced = again, true
			}
		}
		h.sealed = s.Info().Sealed
		if synced {
			h.durable = len(h.taken)
		}
	}
	return h
}

// leavings gives what a crash may leave of a disk, for each number of the file's changes and of the last one's bytes; at first stand picks for the directory.
func leavings(d *simfs.Disk, first ...int) [][]api.File {
	var all [][]api.File
	for changes := range 8 {
		for torn := range 24 {
			image := d.Crash(append(slices.Clone(first), changes, torn))
			if !slices.ContainsFunc(all, func(other []api.File) bool { return slices.EqualFunc(image, other, sameFile) }) {
				all = append(all, image)
			}
		}
	}
	return all
}

// wantFirstPart fails unless what a crash has left opens to a first part of what was done.
func wantFirstPart(t *testing.T, what string, image []api.File, h history) {
	t.Helper()
	d, _ := simfs.Load(image, 1<<20)
	left := seen(d)
	s, e := segment.Open(d, 3, 7, 65536)
	if s == nil || e != api.OK {
		t.Errorf("%s: Open of %x = %d", what, left, e)
		return
	}
	info := s.Info()
	if info.Count < h.durable || info.Count > len(h.taken) || info.Sealed && !h.sealed || h.shut && !info.Sealed {
		t.Errorf("%s: of %x are left %v; done was %d durable of %d, sealed %t, shut %t", what, left, info, h.durable, len(h.taken), h.sealed, h.shut)
		return
	}
	if info.Sealed && info.Count < len(h.taken) {
		t.Errorf("%s: sealed with %d records of %d", what, info.Count, len(h.taken))
	}
	wantHolds(t, what, s, told(h.taken[:info.Count], info.Sealed), h.taken[:info.Count])
	if !bytes.HasPrefix(left, seen(d)) || !bytes.Equal(d.Crash(nil)[0].Data, seen(d)) {
		t.Errorf("%s: of %x stays %x", what, left, seen(d))
	}
}

// 5.12
func TestAFirstPartIsLeft(t *testing.T) {
	tried, torn := 0, 0
	for _, script := range []string{"", "a", "ay", "s", "as", "aaaaa", "aayaa", "aayaaya", "aaas", "aayas", "aasy", "yyaays", "aoaoa", "aaoas", "asoy", "ayaoas"} {
		for fuse := -1; fuse < 10; fuse++ {
			d := disk(t)
			s := create(t, d, 65536)
			d.SyncDir()
			d.Fuse(fuse)
			h := run(s, d, script)
			for _, image := range leavings(d, 0) {
				wantFirstPart(t, fmt.Sprintf("%s with power for %d", script, fuse), image, h)
				tried++
				if len(image[0].Data) != len(seen(d)) {
					torn++
				}
			}
		}
	}
	if tried < 2000 || torn < 1000 {
		t.Errorf("%d tried, %d torn", tried, torn)
	}
}

// The examples: two appends without a Sync, and a crash that leaves 30 bytes.
func TestTornAppendsAreCutOff(t *testing.T) {
	d := disk(t)
	s := create(t, d, 256)
	d.SyncDir()
	add(t, s, put(12, "a", "x"))
	add(t, s, put(13, "b", "yy"))
	image := d.Crash([]int{0, 0, 9})
	want(t, "bytes that are left", len(image[0].Data), 30)
	d, _ = simfs.Load(image, 1000)
	wantHolds(t, "30 bytes", open(t, d), told(nil, false), nil)
	want(t, "bytes behind Open", len(seen(d)), 21)
}

// Behind a Seal that was answered nothing is missing, whatever is left.
func TestSealedSegmentsStay(t *testing.T) {
	d, s := filled(t)
	d.SyncDir()
	want(t, "Seal", s.Seal(), api.OK)
	for _, image := range leavings(d) {
		if len(image) != 1 || !bytes.Equal(image[0].Data, whole(few(), true)) {
			t.Errorf("a crash leaves %v", image)
		}
	}
}

// Within Create: no name, or a file without a whole head, or a segment without records.
func TestCrashesWithinCreate(t *testing.T) {
	opened := 0
	for fuse := range 4 {
		d := disk(t)
		d.Fuse(fuse)
		segment.Create(d, 3, 7, 10, 256)
		if fuse < 3 && !d.Dead() {
			t.Fatalf("Create is done with power for %d", fuse)
		}
		for named := range 2 {
			for _, image := range leavings(d, named) {
				x, _ := simfs.Load(image, 1000)
				left := seen(x)
				s, e := segment.Open(x, 3, 7, 256)
				if len(left) < 21 {
					wantRefused(t, fmt.Sprintf("%x", left), s, e, api.ErrSegment)
					continue
				}
				wantHolds(t, "a whole head", s, told(nil, false), nil)
				opened++
			}
			if fuse == 3 && named == 1 && len(leavings(d, named)) != 1 {
				t.Error("behind Create a crash has a choice")
			}
		}
	}
	want(t, "opened", opened, 2)
}

// A crash within Open takes nothing away that Open would keep.
func TestCrashesWithinOpen(t *testing.T) {
	list := few()
	b := whole(list, true)
	for n := 21; n <= len(b)+1; n++ {
		data := append(bytes.Clone(b), 0)[:n]
		info, l, _ := slowLook(data)
		for fuse := range 3 {
			d := holding(t, data)
			d.Fuse(fuse)
			segment.Open(d, 3, 7, 65536)
			for _, image := range leavings(d, 0) {
				x, _ := simfs.Load(image, 1<<20)
				wantHolds(t, fmt.Sprint("the first ", n, " with power for ", fuse), open(t, x), info, l)
			}
		}
	}
}
