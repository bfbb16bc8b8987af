package hint_test

import (
	"bytes"
	"fmt"
	"testing"

	"chronicle/api"
	"chronicle/hint"
	"chronicle/segment"
	"chronicle/simfs"
)

// short is records of which a crash leaves not too many different parts.
func short() []api.Record {
	return []api.Record{put(1, 2, "a", "x"), put(2, 3, "b", "y"), gone(4, 3, "a")}
}

func shortHint() api.Hint { return slowOf(7, sizeOf(short()), placed(short())) }

// history is what was answered OK.
type history struct {
	shut    bool // the segment's Seal
	written bool // the hint's Write
	kept    bool // a sync of the directory behind that
}

// live does all that belongs to a segment's life, from its first record to its hint's name, as far as the power goes.
func live(d *simfs.Disk, s *segment.Segment) history {
	var h history
	for _, r := range short() {
		if _, e := s.Append(r); e != api.OK {
			return h
		}
	}
	if h.shut = s.Seal() == api.OK; !h.shut {
		return h
	}
	if h.written = hint.Write(d, 3, hint.Of(7, s.Info().Size, walk(s))) == api.OK; h.written {
		h.kept = d.SyncDir() == api.OK
	}
	return h
}

// leavings gives what a crash may leave of a disk on which one file at most waits for a sync: for each number of the directory's changes, of that file's, and of the last one's bytes.
func leavings(d *simfs.Disk) [][]api.File {
	var all [][]api.File
	known := map[string]int{}
	for named := range 5 {
		for changes := range 6 {
			for torn := range 50 {
				image := d.Crash([]int{named, changes, torn})
				if key := fmt.Sprintf("%q", image); known[key] == 0 {
					known[key]++
					all = append(all, image)
				}
			}
		}
	}
	return all
}

// wantNoLie fails unless Load and Recover over what a crash has left tell what the segment holds, or that it holds nothing that counts.
func wantNoLie(t *testing.T, what string, image []api.File, h history) {
	t.Helper()
	d, _ := simfs.Load(image, 1<<20)
	seg, named := inImage(image, segFile)
	b, hinted := inImage(image, hintFile)
	whole := len(seg) == sizeOf(short())
	if h.shut && named && !whole || h.written && hinted && !bytes.Equal(b, slowEncode(shortHint())) || h.kept && !(named && hinted) {
		t.Errorf("%s: a crash leaves %q", what, image)
	}
	wanted := lost()
	switch {
	case whole && bytes.Equal(b, slowEncode(shortHint())):
		wanted = asked{api.OK, api.OK, true, shortHint()}
	case whole:
		wanted = asked{api.ErrHint, api.OK, false, shortHint()}
	}
	wantAsked(t, what, d, wanted)
	if got, from, e := hint.Recover(d, 3, 7); h.shut && named && (e != api.OK || !sameHint(got, shortHint()) || h.written && hinted && !from) {
		t.Errorf("%s: Recover of %q = %s, %t, %d", what, image, brief(got), from, e)
	}
}

// 6.10
func TestAHintNeverLies(t *testing.T) {
	count := map[string]int{}
	for _, synced := range []bool{true, false} {
		for fuse := range 10 {
			d := disk(t)
			s, _ := segment.Create(d, 3, 7, 0, 65536)
			if synced {
				d.SyncDir()
			}
			d.Fuse(fuse)
			h := live(d, s)
			want(t, fmt.Sprint("all was done with power for ", fuse), h.kept, fuse == 9)
			for _, image := range leavings(d) {
				wantNoLie(t, fmt.Sprintf("with power for %d, the name synced %t", fuse, synced), image, h)
				count[kindOf(image, h)]++
			}
		}
	}
	for _, kind := range []string{
		"shut false: segment torn, hint not there", "shut false: segment whole, hint not there", "shut false: segment not there, hint not there",
		"shut true: segment whole, hint not there", "shut true: segment whole, hint torn", "shut true: segment whole, hint whole", "shut true: segment not there, hint not there",
	} {
		if count[kind] == 0 {
			t.Errorf("never tried: %s", kind)
		}
	}
	want(t, "kinds", len(count), 7)
	if count["shut true: segment whole, hint torn"] < 30 || count["shut false: segment torn, hint not there"] < 50 {
		t.Errorf("%v", count)
	}
}

// kindOf tells what a crash has left of both files.
func kindOf(image []api.File, h history) string {
	part := func(name string, size int) string {
		b, ok := inImage(image, name)
		switch {
		case !ok:
			return "not there"
		case len(b) < size:
			return "torn"
		}
		return "whole"
	}
	return fmt.Sprintf("shut %t: segment %s, hint %s", h.shut, part(segFile, sizeOf(short())), part(hintFile, len(slowEncode(shortHint()))))
}

// A Write that is refused room leaves at most a name.
func TestARefusedHintNeverLies(t *testing.T) {
	names := 0
	for _, fuse := range []int{-1, 0, 1} {
		d := disk(t)
		fillSegment(t, d, 3, 7, short(), true)
		d.SyncDir()
		d.SetQuota(d.Used() + 5)
		d.Fuse(fuse)
		if e := hint.Write(d, 3, shortHint()); e != api.ErrSpace && (fuse != 0 || e != api.ErrDead) {
			t.Errorf("with power for %d: Write = %d", fuse, e)
		}
		for _, image := range leavings(d) {
			wantNoLie(t, fmt.Sprint("refused, with power for ", fuse), image, history{shut: true})
			names += len(image) - 1
		}
	}
	want(t, "names that are left", names, 2)
}

// A hint whose removal is under way: it is there whole, or not at all.
func TestARemovedHintNeverLies(t *testing.T) {
	d := disk(t)
	s, _ := segment.Create(d, 3, 7, 0, 65536)
	h := live(d, s)
	d.Remove(hintFile)
	h.kept = false
	left := leavings(d)
	want(t, "what a crash may leave", len(left), 2)
	for _, image := range left {
		wantNoLie(t, "removed", image, h)
	}
}

// What a crash leaves of a hint can be taken away, and written anew.
func TestHintsAreWrittenAnew(t *testing.T) {
	for fuse := range 3 {
		d := disk(t)
		fillSegment(t, d, 3, 7, short(), true)
		d.SyncDir()
		d.Fuse(fuse)
		want(t, "Write without power", hint.Write(d, 3, shortHint()), api.ErrDead)
		for _, image := range leavings(d) {
			again, _ := simfs.Load(image, 1<<20)
			if _, ok := seen(again, hintFile); ok {
				want(t, "Write over it", hint.Write(again, 3, shortHint()), api.ErrExists)
				again.Remove(hintFile)
			}
			h, _, _ := hint.Recover(again, 3, 7)
			want(t, "Write anew", hint.Write(again, 3, h), api.OK)
			wantAsked(t, "written anew", again, asked{api.OK, api.OK, true, shortHint()})
		}
	}
}
