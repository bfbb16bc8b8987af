package hint_test

import (
	"bytes"
	"fmt"
	"math"
	"strings"
	"testing"

	"chronicle/api"
	"chronicle/hint"
	"chronicle/record"
	"chronicle/segment"
	"chronicle/simfs"
)

// wrongIds is a topic's and a segment's number of which one at least may not be.
func wrongIds() [][2]int {
	return [][2]int{{-1, 0}, {0, -1}, {1 << 30, 0}, {0, 1 << 30}, {math.MinInt, 0}, {0, math.MaxInt}, {-1, 1 << 30}}
}

// 6.4
func TestName(t *testing.T) {
	for wanted, c := range map[string][2]int{
		"t3.12.hint":                  {3, 12},
		"t12.3.hint":                  {12, 3},
		"t0.0.hint":                   {0, 0},
		"t1000.10.hint":               {1000, 10},
		"t1073741823.1073741823.hint": {lastId, lastId},
		"t0.1073741823.hint":          {0, lastId},
		"t1073741823.0.hint":          {lastId, 0},
	} {
		want(t, fmt.Sprint("Name of ", c), hint.Name(c[0], c[1]), wanted)
	}
	for _, c := range wrongIds() {
		want(t, fmt.Sprint("Name of ", c), hint.Name(c[0], c[1]), "")
	}
}

// 6.5
func TestWrite(t *testing.T) {
	for _, c := range []struct {
		topic int
		h     api.Hint
		name  string
	}{
		{3, fewHint(), hintFile},
		{0, api.Hint{Size: 38}, "t0.0.hint"},
		{lastId, full(40), "t1073741823.1073741823.hint"},
	} {
		d := disk(t)
		want(t, "Write", hint.Write(d, c.topic, c.h), api.OK)
		wanted := []api.File{{Name: c.name, Data: slowEncode(c.h)}}
		if !sameImage(d.Image(), wanted) {
			t.Errorf("%s: %v", c.name, d.Image())
		}
		want(t, "operations", d.Ops(), 3)
		want(t, "files without a sync of the directory", len(d.Crash(nil)), 0)
		if !sameImage(d.Crash([]int{1}), wanted) { // no change of the file is picked: its bytes are durable
			t.Errorf("%s: a crash leaves %v", c.name, d.Crash([]int{1}))
		}
	}
}

// Whether there is a segment is not asked.
func TestWriteLeavesOtherFilesAlone(t *testing.T) {
	files := map[string][]byte{segFile: []byte("no segment"), "t3.8.hint": []byte("another"), "t4.7.hint": nil, "a": []byte("a")}
	d := holding(t, files)
	want(t, "Write", hint.Write(d, 3, fewHint()), api.OK)
	files[hintFile] = slowEncode(fewHint())
	if !sameImage(d.Image(), holding(t, files).Image()) {
		t.Errorf("%v", d.Image())
	}
}

func TestWriteTellsTheFirstError(t *testing.T) {
	wrong := api.Hint{Seg: 7}
	want(t, "a nil disk", hint.Write(nil, 3, fewHint()), api.ErrNil)
	want(t, "a nil disk, all wrong", hint.Write(nil, -1, wrong), api.ErrNil)

	d := both(t)
	image := d.Image()
	for _, topic := range []int{math.MinInt, -1, 1 << 30, math.MaxInt} {
		want(t, "a wrong topic", hint.Write(d, topic, fewHint()), api.ErrArg)
		want(t, "a wrong topic and a wrong hint", hint.Write(d, topic, wrong), api.ErrArg)
	}
	for _, c := range edges() {
		if !c.right {
			want(t, c.what, hint.Write(d, 3, c.h), api.ErrHint)
		}
	}
	want(t, "a hint without anything", hint.Write(d, 4, api.Hint{}), api.ErrHint)
	want(t, "a wrong hint, and the file is there", hint.Write(d, 3, wrong), api.ErrHint)
	d.SetQuota(0)
	want(t, "the file is there, and there is no room", hint.Write(d, 3, fewHint()), api.ErrExists)
	if d.Ops() != 0 || !sameImage(d.Image(), image) {
		t.Errorf("%d operations, %v", d.Ops(), d.Image())
	}

	d.Fuse(0)
	d.SyncDir()
	want(t, "no power, and the file is there", hint.Write(d, 3, fewHint()), api.ErrDead)
	want(t, "no power", hint.Write(d, 4, fewHint()), api.ErrDead)
	want(t, "a wrong hint, and no power", hint.Write(d, 3, wrong), api.ErrHint)
	want(t, "a wrong topic, and no power", hint.Write(d, -1, fewHint()), api.ErrArg)
	if d.Ops() != 0 || !sameImage(d.Image(), image) {
		t.Errorf("without power: %d operations, %v", d.Ops(), d.Image())
	}
}

// A file that was there ahead is not what Write has made: it stays, whatever it holds.
func TestWriteOverAFile(t *testing.T) {
	for _, b := range [][]byte{nil, []byte("anything"), slowEncode(fewHint())} {
		d := holding(t, map[string][]byte{hintFile: b})
		want(t, "Write", hint.Write(d, 3, fewHint()), api.ErrExists)
		got, ok := seen(d, hintFile)
		if !ok || !bytes.Equal(got, b) || d.Ops() != 0 {
			t.Errorf("%q is %q now, %d operations", b, got, d.Ops())
		}
	}
	d := disk(t)
	want(t, "Write", hint.Write(d, 3, fewHint()), api.OK)
	want(t, "Write once more", hint.Write(d, 3, fewHint()), api.ErrExists)
	want(t, "Write of another topic", hint.Write(d, 4, fewHint()), api.OK)
	want(t, "Write of another segment", hint.Write(d, 3, api.Hint{Seg: 8, Size: 38}), api.OK)
}

func TestWriteWithoutRoom(t *testing.T) {
	b := slowEncode(fewHint())
	for _, room := range []int{0, 1, 9, len(b) - 1} {
		d := both(t)
		d.Remove(hintFile)
		d.SyncDir()
		image, ops := d.Image(), d.Ops()
		d.SetQuota(d.Used() + room)
		want(t, fmt.Sprint("Write with room for ", room), hint.Write(d, 3, fewHint()), api.ErrSpace)
		if !sameImage(d.Image(), image) || d.Ops() != ops+2 || d.Dead() {
			t.Errorf("room for %d: %v, %d operations", room, d.Image(), d.Ops()-ops)
		}
		d.SetQuota(d.Used() + len(b))
		want(t, "Write with just as much room", hint.Write(d, 3, fewHint()), api.OK)
	}
}

func TestWriteWithoutRoomForAName(t *testing.T) {
	image := make([]api.File, 1<<16)
	for i := range image {
		image[i].Name = fmt.Sprintf("f%05d", i)
	}
	d, e := simfs.Load(image, 1<<20)
	want(t, "Load", e, api.OK)
	want(t, "Write", hint.Write(d, 3, fewHint()), api.ErrFiles)
	want(t, "operations", d.Ops(), 0)
	d.Remove("f00000")
	want(t, "Write with one file less", hint.Write(d, 3, fewHint()), api.OK)
}

// The power goes with the making, the append, the sync.
func TestWriteWithoutPower(t *testing.T) {
	b := slowEncode(fewHint())
	for fuse, left := range [][]byte{nil, {}, b} {
		d := disk(t)
		d.Fuse(fuse)
		want(t, fmt.Sprint("Write with power for ", fuse), hint.Write(d, 3, fewHint()), api.ErrDead)
		got, ok := seen(d, hintFile)
		if !bytes.Equal(got, left) || ok != (left != nil) || !d.Dead() || d.Ops() != fuse {
			t.Errorf("power for %d: %x, %t, %d operations", fuse, got, ok, d.Ops())
		}
	}
	d := disk(t)
	d.Fuse(3)
	want(t, "Write with power for 3", hint.Write(d, 3, fewHint()), api.OK)
	want(t, "power", d.Dead(), false)
}

// The append is refused room, and with the removal the power goes: what was refused is told.
func TestWriteWithoutRoomOrPower(t *testing.T) {
	d, _ := simfs.New(3)
	d.Fuse(1)
	want(t, "Write", hint.Write(d, 3, fewHint()), api.ErrSpace)
	got, ok := seen(d, hintFile)
	if !d.Dead() || !ok || len(got) != 0 {
		t.Errorf("power %t, %q, %t", !d.Dead(), got, ok)
	}
}

// asked is what Load and Recover answer.
type asked struct {
	load    api.Errno
	recover api.Errno
	from    bool
	h       api.Hint // what Recover answers, and Load, where it is OK
}

// wantAsked fails unless Load and Recover of the segment 7 of topic 3 answer so, and change nothing.
func wantAsked(t *testing.T, what string, d *simfs.Disk, w asked) {
	t.Helper()
	image, left, ops, dead := d.Image(), d.Crash(nil), d.Ops(), d.Dead()
	loaded := api.Hint{}
	if w.load == api.OK {
		loaded = w.h
	}
	if h, e := hint.Load(d, 3, 7); e != w.load || !sameHint(h, loaded) {
		t.Errorf("%s: Load = %s, %d, want %s, %d", what, brief(h), e, brief(loaded), w.load)
	}
	if h, from, e := hint.Recover(d, 3, 7); e != w.recover || from != w.from || !sameHint(h, w.h) {
		t.Errorf("%s: Recover = %s, %t, %d, want %s, %t, %d", what, brief(h), from, e, brief(w.h), w.from, w.recover)
	}
	if !sameImage(d.Image(), image) || !sameImage(d.Crash(nil), left) || d.Ops() != ops || d.Dead() != dead {
		t.Errorf("%s: the disk is changed", what)
	}
}

// What is answered of a hint that counts, of one that does not beside a whole segment, and where neither is.
func counts() asked  { return asked{api.OK, api.OK, true, fewHint()} }
func rebuilt() asked { return asked{api.ErrHint, api.OK, false, fewHint()} }
func lost() asked    { return asked{load: api.ErrHint, recover: api.ErrSegment} }

// 6.6, 6.7
func TestLoadAndRecover(t *testing.T) {
	wantAsked(t, "both files", both(t), counts())

	empty := holding(t, map[string][]byte{segFile: segmentBytes(t, 3, 7, nil, true), hintFile: slowEncode(api.Hint{Seg: 7, Size: 38})})
	wantAsked(t, "no records", empty, asked{api.OK, api.OK, true, api.Hint{Seg: 7, Size: 38}})
	empty.Remove(hintFile)
	wantAsked(t, "no records and no hint", empty, asked{api.ErrHint, api.OK, false, api.Hint{Seg: 7, Size: 38}})

	d := disk(t)
	fillSegment(t, d, lastId, lastId, few(), true)
	wanted := fewHint()
	wanted.Seg = lastId
	h, from, e := hint.Recover(d, lastId, lastId)
	wantHint(t, "Recover of the greatest numbers", h, wanted)
	want(t, "Recover of the greatest numbers", fmt.Sprint(from, e), fmt.Sprint(false, api.OK))
	want(t, "Write", hint.Write(d, lastId, wanted), api.OK)
	h, from, e = hint.Recover(d, lastId, lastId)
	wantHint(t, "Recover of the greatest numbers", h, wanted)
	want(t, "Recover of the greatest numbers", fmt.Sprint(from, e), fmt.Sprint(true, api.OK))
}

func TestLoadTellsTheFirstError(t *testing.T) {
	refused := func(what string, d *simfs.Disk, topic, seg int, wanted api.Errno) {
		t.Helper()
		if h, e := hint.Load(d, topic, seg); e != wanted || !sameHint(h, api.Hint{}) {
			t.Errorf("%s: Load = %s, %d, want %d", what, brief(h), e, wanted)
		}
		if h, from, e := hint.Recover(d, topic, seg); e != wanted || from || !sameHint(h, api.Hint{}) {
			t.Errorf("%s: Recover = %s, %t, %d, want %d", what, brief(h), from, e, wanted)
		}
	}
	d := both(t)
	refused("a nil disk", nil, 3, 7, api.ErrNil)
	for _, c := range wrongIds() {
		refused(fmt.Sprint("a nil disk and ", c), nil, c[0], c[1], api.ErrNil)
		refused(fmt.Sprint(c), d, c[0], c[1], api.ErrArg)
	}
	d.Fuse(0)
	d.SyncDir()
	for _, c := range wrongIds() {
		refused(fmt.Sprint("no power and ", c), d, c[0], c[1], api.ErrArg)
	}
	refused("no power", d, 3, 7, api.ErrDead)
	refused("no power and no file", d, 3, 8, api.ErrDead)
}

// A hint that is not there, or is none, or is another segment's, does not count.
func TestHintsThatDoNotCount(t *testing.T) {
	b := slowEncode(fewHint())
	other := fewHint()
	other.Seg = 8
	larger := fewHint()
	larger.Size++
	smaller := fewHint()
	smaller.Size--
	smaller.Entries = smaller.Entries[:2]
	seg := segmentBytes(t, 3, 7, few(), true)
	wantAsked(t, "no hint", holding(t, map[string][]byte{segFile: seg}), rebuilt())
	for what, data := range map[string][]byte{
		"no bytes":              nil,
		"one byte less":         b[:len(b)-1],
		"one byte more":         append(bytes.Clone(b), 0),
		"the half":              b[:len(b)/2],
		"the hint twice":        append(bytes.Clone(b), b...),
		"another mark":          append([]byte{0xb2}, b[1:]...),
		"another byte":          append(bytes.Clone(b[:len(b)-1]), b[len(b)-1]^1),
		"the segment's bytes":   seg,
		"another segment's":     slowEncode(other),
		"a larger segment's":    slowEncode(larger),
		"a smaller segment's":   slowEncode(smaller),
		"any bytes":             []byte("anything"),
		"a hint that is not so": slowEncode(api.Hint{Seg: 7, Size: len(seg), Entries: []api.HintEntry{{Key: "k", Pos: 20, Len: 14}}}),
	} {
		wantAsked(t, what, holding(t, map[string][]byte{segFile: seg, hintFile: data}), rebuilt())
		wantAsked(t, what+", no segment", holding(t, map[string][]byte{hintFile: data}), lost())
	}
	wantAsked(t, "neither file", disk(t), lost())
	near := map[string][]byte{segFile: seg, "t3.8.hint": b, "t4.7.hint": b, "t3.7.hint.tmp": b, "t37.hint": b, "t7.3.hint": b}
	wantAsked(t, "hints of other names", holding(t, near), rebuilt())
}

// A hint that is right in itself is taken as it is, if its segment is as long as it says: the segment is not read.
func TestRightHintsAreTakenAtTheirWord(t *testing.T) {
	size := sizeOf(few())
	made := api.Hint{Seg: 7, Size: size, Entries: []api.HintEntry{{Key: "made up", Off: 77, Time: 78, Pos: 30, Len: 20}}}
	for what, seg := range map[string][]byte{
		"a whole segment": segmentBytes(t, 3, 7, few(), true),
		"no segment":      bytes.Repeat([]byte("x"), size),
	} {
		d := holding(t, map[string][]byte{segFile: seg, hintFile: slowEncode(made)})
		wantAsked(t, what, d, asked{api.OK, api.OK, true, made})
	}
}

// A segment that is not there or has another length than the hint says.
func TestSegmentsThatHintsDoNotFit(t *testing.T) {
	b := slowEncode(fewHint())
	seg := segmentBytes(t, 3, 7, few(), true)
	wantAsked(t, "no segment", holding(t, map[string][]byte{hintFile: b}), lost())
	for what, data := range map[string][]byte{
		"no bytes":          nil,
		"one byte less":     seg[:len(seg)-1],
		"one byte more":     append(bytes.Clone(seg), 0),
		"the tail twice":    append(bytes.Clone(seg), seg[len(seg)-17:]...),
		"without its tail":  seg[:len(seg)-17],
		"its head alone":    seg[:21],
		"the segment twice": append(bytes.Clone(seg), seg...),
		"far longer":        append(bytes.Clone(seg), make([]byte, 1<<16)...),
	} {
		wantAsked(t, what, holding(t, map[string][]byte{segFile: data, hintFile: b}), lost())
	}
	longer := append(few(), put(2000, 1, "e", "more"))
	d := holding(t, map[string][]byte{segFile: segmentBytes(t, 3, 7, longer, true), hintFile: b})
	wantAsked(t, "another sealed segment", d, asked{api.ErrHint, api.OK, false, slowOf(7, sizeOf(longer), placed(longer))})
	near := map[string][]byte{hintFile: b, "t3.8.seg": seg, "t4.7.seg": seg, "t7.3.seg": seg, "t37.seg": seg}
	wantAsked(t, "segments of other names", holding(t, near), lost())
}

// 6.7: what the segment has to be, where it is read.
func TestRecoverOfSegments(t *testing.T) {
	seg := segmentBytes(t, 3, 7, few(), true)
	for what, data := range map[string][]byte{
		"no bytes":                          nil,
		"not sealed":                        segmentBytes(t, 3, 7, few(), false),
		"a head alone":                      segmentBytes(t, 3, 7, nil, false),
		"of another topic":                  segmentBytes(t, 4, 7, few(), true),
		"of another number":                 segmentBytes(t, 3, 8, few(), true),
		"numbers exchanged":                 segmentBytes(t, 7, 3, few(), true),
		"without records, of another topic": segmentBytes(t, 4, 7, nil, true),
		"one byte more":                     append(bytes.Clone(seg), 0),
		"one byte less":                     seg[:len(seg)-1],
		"without its head":                  seg[21:],
		"any bytes":                         []byte("anything"),
		"a hint's bytes":                    slowEncode(fewHint()),
	} {
		wantAsked(t, what, holding(t, map[string][]byte{segFile: data}), lost())
	}
	for at := range seg {
		b := bytes.Clone(seg)
		b[at] ^= 0x10
		wantAsked(t, fmt.Sprint("another byte at ", at), holding(t, map[string][]byte{segFile: b}), lost())
	}
	wantAsked(t, "the whole", holding(t, map[string][]byte{segFile: seg}), rebuilt())
}

// The segments of other numbers than the one that is asked for do not count, though they are whole.
func TestRecoverAsksForItsNumbers(t *testing.T) {
	d := disk(t)
	for _, c := range [][2]int{{0, 0}, {3, 7}, {3, 8}, {4, 7}} {
		list := []api.Record{put(int64(10*c[0]+c[1]), 5, "k", "v")}
		fillSegment(t, d, c[0], c[1], list, true)
		wanted := slowOf(c[1], sizeOf(list), placed(list))
		h, from, e := hint.Recover(d, c[0], c[1])
		wantHint(t, fmt.Sprint(c), h, wanted)
		want(t, fmt.Sprint(c), fmt.Sprint(from, e), fmt.Sprint(false, api.OK))
		want(t, "Write", hint.Write(d, c[0], h), api.OK)
		h, from, e = hint.Recover(d, c[0], c[1])
		wantHint(t, fmt.Sprint(c), h, wanted)
		want(t, fmt.Sprint(c), fmt.Sprint(from, e), fmt.Sprint(true, api.OK))
	}
	_, _, e := hint.Recover(d, 4, 8)
	want(t, "a segment that is not there", e, api.ErrSegment)
}

// grown is records that are more than a segment's limit lets in.
func grown() []api.Record {
	var list []api.Record
	for i := range 75 {
		list = append(list, put(int64(i), 0, fmt.Sprint("key", i%50), unlike(900)))
	}
	return list
}

// A file longer than MaxSeg has no hint that is right, but is told all the same.
func TestRecoverOfLongFiles(t *testing.T) {
	list := grown()
	seg := sealedBy(list)
	info, recs, spot := segment.Look(seg)
	if len(seg) <= 65536 || !info.Sealed || spot.Err != api.OK || len(recs) != len(list) {
		t.Fatalf("%d bytes: %v, %v", len(seg), info, spot)
	}
	wanted := slowOf(7, len(seg), placed(list))
	d := holding(t, map[string][]byte{segFile: seg})
	wantAsked(t, "a long file", d, asked{api.ErrHint, api.OK, false, wanted})
	wantWrong(t, "a long file", wanted)
	want(t, "Write", hint.Write(d, 3, wanted), api.ErrHint)
	d = holding(t, map[string][]byte{segFile: seg, hintFile: slowEncode(wanted)})
	wantAsked(t, "a long file, and bytes as if there were a hint", d, asked{api.ErrHint, api.OK, false, wanted})
}

// A disk over its quota can be read.
func TestLoadAsksForNoRoom(t *testing.T) {
	d := both(t)
	d.SetQuota(0)
	wantAsked(t, "no room", d, counts())
	d.Remove(hintFile)
	wantAsked(t, "no room and no hint", d, rebuilt())
}

// 6.9
func TestHintsOfSegmentsAreRight(t *testing.T) {
	for seed := range uint64(60) {
		d := disk(t)
		s := fillSegment(t, d, 3, 7, nil, false)
		fillByNoise(s, seed)
		want(t, "Seal", s.Seal(), api.OK)
		b, _ := seen(d, segFile)
		info, recs, _ := segment.Look(b)
		if info.Size > 65536 || len(recs) != info.Count {
			t.Fatalf("seed %d: %v", seed, info)
		}
		h := hint.Of(7, info.Size, recs)
		if !slowRight(h) {
			t.Errorf("seed %d: %s is not right", seed, brief(h))
		}
		wantHint(t, "Of its places", hint.Of(7, s.Info().Size, walk(s)), h)
		wantBytes(t, fmt.Sprint("seed ", seed), h, slowEncode(h))
		wantAsked(t, fmt.Sprint("seed ", seed), d, asked{api.ErrHint, api.OK, false, h})
		want(t, "Write", hint.Write(d, 3, h), api.OK)
		wantAsked(t, fmt.Sprint("seed ", seed), d, asked{api.OK, api.OK, true, h})
	}
}

// The shortest and the longest records that there are, and a segment as full as can be.
func TestHintsOfRecordsAtTheEdges(t *testing.T) {
	most := put(lastOffset, lastTime, strings.Repeat("\xff", 64), "")
	most.Pid, most.Seq = 1<<32-1, 1<<40-1
	most.Value = unlike(1024)
	lists := [][]api.Record{
		nil,
		{put(0, 0, "k", "")},
		{gone(0, 0, "k")},
		{most},
		{put(0, 0, "k", ""), gone(1, 0, "k"), most},
	}
	for _, list := range lists {
		d := disk(t)
		fillSegment(t, d, 3, 7, list, true)
		h := hint.Of(7, sizeOf(list), placed(list))
		wantBytes(t, fmt.Sprint(len(list), " records"), h, slowEncode(h))
		wantAsked(t, fmt.Sprint(len(list), " records"), d, asked{api.ErrHint, api.OK, false, slowOf(7, sizeOf(list), placed(list))})
	}
	want(t, "the longest record", hint.Of(7, 0, placed(lists[3])).Entries[0].Len, 1124)
	want(t, "the shortest record", hint.Of(7, 0, placed(lists[1])).Entries[0].Len, 14)

	list := brimful()
	want(t, "bytes of a full segment", sizeOf(list), 65536)
	d := disk(t)
	fillSegment(t, d, 3, 7, list, true)
	h := slowOf(7, 65536, placed(list))
	wantBytes(t, "a full segment", h, slowEncode(h))
	want(t, "Write", hint.Write(d, 3, hint.Of(7, 65536, placed(list))), api.OK)
	wantAsked(t, "a full segment", d, asked{api.OK, api.OK, true, h})
}

// brimful is records that fill a segment of 65536 bytes to its last one.
func brimful() []api.Record {
	var list []api.Record
	size := 38
	for size < 65000 {
		r := put(int64(len(list)), 5, fmt.Sprint(len(list)%2000), "v")
		list, size = append(list, r), size+record.Size(r)
	}
	last := put(int64(len(list)), 5, "last", "")
	for size+record.Size(last) < 65536 {
		last.Value = unlike(len(last.Value) + 1)
	}
	return append(list, last)
}
