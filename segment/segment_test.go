package segment_test

import (
	"bytes"
	"fmt"
	"math"
	"slices"
	"strconv"
	"testing"

	"chronicle/api"
	"chronicle/segment"
	"chronicle/simfs"
)

// wrongIds is a topic's and a segment's number of which one at least may not be.
func wrongIds() [][2]int {
	return [][2]int{{-1, 0}, {0, -1}, {1 << 30, 0}, {0, 1 << 30}, {math.MinInt, 0}, {0, math.MaxInt}, {-1, 1 << 30}}
}

func wrongLimits() []int { return []int{255, 65537, 0, -256, math.MinInt, math.MaxInt} }

// 5.3
func TestCreate(t *testing.T) {
	for _, c := range []struct {
		topic, number int
		base          int64
		limit         int
	}{
		{3, 7, 10, 256},
		{0, 0, 0, 256},
		{1<<30 - 1, 1<<30 - 1, 1 << 40, 65536},
		{0, 1<<30 - 1, 1<<40 - 1, 257},
	} {
		d := disk(t)
		s, e := segment.Create(d, c.topic, c.number, c.base, c.limit)
		if s == nil || e != api.OK {
			t.Fatalf("Create(%v) = %v, %d", c, s, e)
		}
		want(t, "Info", s.Info(), api.SegInfo{Topic: c.topic, Number: c.number, Base: c.base, Size: 21, Last: c.base - 1})
		want(t, "Places", len(walk(s, 0)), 0)
		image := d.Image()
		if len(image) != 1 || image[0].Name != segment.Name(c.topic, c.number) || !bytes.Equal(image[0].Data, slowHead(uint32(c.topic), uint32(c.number), uint64(c.base))) {
			t.Errorf("Create(%v): %v", c, image)
		}
		want(t, "operations", d.Ops(), 3)
	}
}

// Its bytes are durable, its name is not.
func TestCreateSyncs(t *testing.T) {
	d := disk(t)
	create(t, d, 256)
	want(t, "files without a sync of the directory", len(d.Crash(nil)), 0)
	left := d.Crash([]int{1})
	if len(left) != 1 || !bytes.Equal(left[0].Data, head()) {
		t.Errorf("a crash leaves %v", left)
	}
}

func TestCreateRefusesNumbers(t *testing.T) {
	d := disk(t)
	for _, c := range wrongIds() {
		s, e := segment.Create(d, c[0], c[1], 0, 256)
		wantRefused(t, fmt.Sprint(c), s, e, api.ErrArg)
	}
	for _, base := range []int64{-1, 1<<40 + 1, math.MinInt64, math.MaxInt64} {
		s, e := segment.Create(d, 0, 0, base, 256)
		wantRefused(t, fmt.Sprint("base ", base), s, e, api.ErrArg)
	}
	for _, limit := range wrongLimits() {
		s, e := segment.Create(d, 0, 0, 0, limit)
		wantRefused(t, fmt.Sprint("limit ", limit), s, e, api.ErrArg)
	}
	if d.Ops() != 0 || len(d.Image()) != 0 {
		t.Errorf("%d operations, %v", d.Ops(), d.Image())
	}
}

func TestCreateTellsTheFirstError(t *testing.T) {
	s, e := segment.Create(nil, -1, -1, -1, -1)
	wantRefused(t, "a nil disk", s, e, api.ErrNil)
	s, e = segment.Create(nil, 3, 7, 10, 256)
	wantRefused(t, "a nil disk alone", s, e, api.ErrNil)

	d := holding(t, []byte("anything"))
	s, e = segment.Create(d, 3, 7, 10, 255)
	wantRefused(t, "a wrong limit, and the file is there", s, e, api.ErrArg)
	d.SetQuota(0)
	s, e = segment.Create(d, 3, 7, 10, 256)
	wantRefused(t, "the file is there, and there is no room", s, e, api.ErrExists)
	if d.Ops() != 0 || string(seen(d)) != "anything" {
		t.Errorf("%d operations, %q", d.Ops(), seen(d))
	}

	d = disk(t)
	create(t, d, 256)
	d.Fuse(0)
	d.SyncDir()
	s, e = segment.Create(d, 3, 7, 10, 256)
	wantRefused(t, "no power, and the file is there", s, e, api.ErrDead)
	s, e = segment.Create(d, 3, 7, 10, 255)
	wantRefused(t, "a wrong limit, and no power", s, e, api.ErrArg)
}

func TestCreateWithoutRoom(t *testing.T) {
	for _, room := range []int{0, 1, 20} {
		d, _ := simfs.New(room)
		s, e := segment.Create(d, 3, 7, 10, 256)
		wantRefused(t, "no room", s, e, api.ErrSpace)
		if len(d.Image()) != 0 || d.Used() != 0 || d.Ops() != 2 {
			t.Errorf("a quota of %d: %v, %d operations", room, d.Image(), d.Ops())
		}
		d.SetQuota(21)
		create(t, d, 256)
	}
}

func TestCreateWithoutPower(t *testing.T) {
	for fuse, left := range [][]byte{nil, {}, head()} {
		d := disk(t)
		d.Fuse(fuse)
		s, e := segment.Create(d, 3, 7, 10, 256)
		wantRefused(t, "no power", s, e, api.ErrDead)
		want(t, "operations", d.Ops(), fuse)
		if !bytes.Equal(seen(d), left) || len(d.Image()) != min(fuse, 1) {
			t.Errorf("a fuse of %d: %v", fuse, d.Image())
		}
	}
	d := disk(t)
	d.Fuse(3)
	create(t, d, 256)

	// There is no room, and the power goes with the removal: the first of the two is told.
	d, _ = simfs.New(20)
	d.Fuse(1)
	s, e := segment.Create(d, 3, 7, 10, 256)
	wantRefused(t, "no room, and no power for the removal", s, e, api.ErrSpace)
	if image := d.Image(); !d.Dead() || len(image) != 1 || len(image[0].Data) != 0 {
		t.Errorf("no room, and no power for the removal: %v", image)
	}
}

func TestCreateWithTooManyFiles(t *testing.T) {
	image := make([]api.File, 65536)
	for i := range image {
		image[i].Name = "a" + strconv.Itoa(100000+i)
	}
	d, _ := simfs.Load(image, 1000)
	s, e := segment.Create(d, 3, 7, 10, 256)
	wantRefused(t, "as many files as there may be", s, e, api.ErrFiles)
	d.Remove("a100000")
	create(t, d, 256)
}

// 5.4
func TestOpen(t *testing.T) {
	for _, list := range [][]api.Record{nil, few()[:1], few()} {
		for _, sealed := range []bool{false, true} {
			b := whole(list, sealed)
			d := holding(t, b)
			wantHolds(t, "opened", open(t, d), told(list, sealed), list)
			if !bytes.Equal(seen(d), b) || d.Ops() != 1 {
				t.Errorf("%d records: %x, %d operations", len(list), seen(d), d.Ops())
			}
		}
	}
}

func TestOpenWithEdges(t *testing.T) {
	for _, c := range []struct{ topic, number, limit int }{{0, 0, 256}, {1<<30 - 1, 1<<30 - 1, 65536}, {3, 7, 257}} {
		d := disk(t)
		segment.Create(d, c.topic, c.number, 1<<40, c.limit)
		s, e := segment.Open(d, c.topic, c.number, c.limit)
		if s == nil || e != api.OK || s.Info() != (api.SegInfo{Topic: c.topic, Number: c.number, Base: 1 << 40, Size: 21, Last: 1<<40 - 1}) {
			t.Errorf("Open(%v) = %v, %d", c, s.Info(), e)
		}
	}
}

// The limit is the one that Open is handed, whatever Create was.
func TestOpenTakesALimit(t *testing.T) {
	for _, limit := range []int{256, 300, 65536} {
		d := disk(t)
		add(t, create(t, d, 1000), sized(10, 30))
		s, _ := segment.Open(d, 3, 7, limit)
		_, e := s.Append(sized(11, 256-21-30-17+1))
		want(t, "one byte above 256", e == api.OK, limit > 256)
	}
}

func TestOpenCutsOff(t *testing.T) {
	list := few()
	b := whole(list, true)
	for n := 21; n <= len(b)+3; n++ {
		data := append(bytes.Clone(b), 0xae, 0, 1)[:n]
		info, l, spot := slowLook(data)
		d := holding(t, data)
		s := open(t, d)
		wantHolds(t, fmt.Sprint("the first ", n), s, info, l)
		ops := 2
		if spot.At == n {
			ops = 1
		}
		if !bytes.Equal(seen(d), b[:spot.At]) || d.Ops() != ops || d.Used() != spot.At {
			t.Errorf("the first %d: %d bytes are left, %d operations", n, len(seen(d)), d.Ops())
		}
		// Nothing comes back, and nothing is to be synced any more.
		if left := d.Crash([]int{1, 1, 1}); len(left) != 1 || !bytes.Equal(left[0].Data, b[:spot.At]) || !bytes.Equal(d.Crash(nil)[0].Data, b[:spot.At]) {
			t.Errorf("the first %d: a crash leaves %v", n, left)
		}
	}
}

// Without anything to cut off the file is synced all the same.
func TestOpenSyncs(t *testing.T) {
	d, s := filled(t)
	d.SyncDir()
	want(t, "durable ahead of it", len(d.Crash(nil)[0].Data), 21)
	open(t, d)
	if left := d.Crash(nil); !bytes.Equal(left[0].Data, whole(few(), false)) {
		t.Errorf("durable behind it: %x", left[0].Data)
	}
	want(t, "Info of the other one", s.Info(), told(few(), false))
}

// What was cut off can be written anew.
func TestOpenedSegmentsGoOn(t *testing.T) {
	list := few()
	b := whole(list, true)
	for n := 21; n < len(b); n++ {
		d := holding(t, b[:n])
		s := open(t, d)
		for _, r := range list[s.Info().Count:] {
			add(t, s, r)
		}
		want(t, "Seal", s.Seal(), api.OK)
		if !bytes.Equal(seen(d), b) {
			t.Errorf("the first %d, gone on with: %x", n, seen(d))
		}
		wantHolds(t, fmt.Sprint("the first ", n), s, told(list, true), list)
	}
}

func TestOpenRefusesNumbers(t *testing.T) {
	d := holding(t, whole(few(), false)[:40])
	for _, c := range wrongIds() {
		s, e := segment.Open(d, c[0], c[1], 256)
		wantRefused(t, fmt.Sprint(c), s, e, api.ErrArg)
	}
	for _, limit := range wrongLimits() {
		s, e := segment.Open(d, 3, 7, limit)
		wantRefused(t, fmt.Sprint("limit ", limit), s, e, api.ErrArg)
	}
	want(t, "operations", d.Ops(), 0)
}

func TestOpenTellsTheFirstError(t *testing.T) {
	s, e := segment.Open(nil, -1, -1, -1)
	wantRefused(t, "a nil disk", s, e, api.ErrNil)
	s, e = segment.Open(nil, 3, 7, 256)
	wantRefused(t, "a nil disk alone", s, e, api.ErrNil)

	d := holding(t, []byte("no head"))
	s, e = segment.Open(d, 3, 7, 255)
	wantRefused(t, "a wrong limit, and no head", s, e, api.ErrArg)
	d.Fuse(0)
	d.SyncDir()
	s, e = segment.Open(d, 3, 7, 255)
	wantRefused(t, "a wrong limit, and no power", s, e, api.ErrArg)
	for number := 7; number < 9; number++ {
		s, e = segment.Open(d, 3, number, 256)
		wantRefused(t, "no power, and no head or no file", s, e, api.ErrDead)
	}
}

// A file that is no such segment is left as it is.
func TestOpenRefusesFiles(t *testing.T) {
	d := disk(t)
	s, e := segment.Open(d, 3, 7, 256)
	wantRefused(t, "no file", s, e, api.ErrSegment)
	d.Create("t3.7.hint")
	s, e = segment.Open(d, 3, 7, 256)
	wantRefused(t, "no such file", s, e, api.ErrSegment)
	want(t, "operations", d.Ops(), 1)

	turned := whole(few(), true)
	turned[4] ^= 1
	for name, b := range map[string][]byte{
		"no bytes":           nil,
		"a piece of a head":  head()[:20],
		"a bit turned":       turned,
		"another topic":      laid(slowHead(4, 7, 10), few()...),
		"another number":     laid(slowHead(3, 8, 10), few()...),
		"the two exchanged":  laid(slowHead(7, 3, 10), few()...),
		"a base too great":   laid(slowHead(3, 7, 1<<40+1), few()...),
		"records alone":      laid(nil, few()...),
		"another topic, cut": slowHead(0, 7, 10)[:21],
	} {
		d := holding(t, b)
		s, e := segment.Open(d, 3, 7, 256)
		wantRefused(t, name, s, e, api.ErrSegment)
		if d.Ops() != 0 || !bytes.Equal(seen(d), b) {
			t.Errorf("%s: %d operations, %x", name, d.Ops(), seen(d))
		}
	}
}

// The numbers 0 are what a head that is none would tell.
func TestOpenRefusesFilesOfTheNumbers0(t *testing.T) {
	s, e := segment.Open(disk(t), 0, 0, 256)
	wantRefused(t, "no file", s, e, api.ErrSegment)
	turned := laid(slowHead(0, 0, 0), few()...)
	turned[20] ^= 1
	for _, b := range [][]byte{nil, laid(nil, few()...), slowTail(nil, 0, math.MaxUint64), slowTail(nil, 0, 0), turned, make([]byte, 21), slowHead(0, 0, 0)[:20]} {
		d, _ := simfs.Load([]api.File{{Name: "t0.0.seg", Data: b}}, 1000)
		s, e := segment.Open(d, 0, 0, 256)
		wantRefused(t, fmt.Sprintf("%x", b), s, e, api.ErrSegment)
		want(t, "operations", d.Ops(), 0)
	}
}

func TestOpenWithoutPower(t *testing.T) {
	b := whole(few(), false)
	for _, c := range []struct{ bytes, fuse, left int }{{len(b), 0, len(b)}, {len(b) - 1, 0, len(b) - 1}, {len(b) - 1, 1, len(b) - 14}} {
		d := holding(t, b[:c.bytes])
		d.Fuse(c.fuse)
		s, e := segment.Open(d, 3, 7, 256)
		wantRefused(t, fmt.Sprint(c), s, e, api.ErrDead)
		want(t, "bytes that are left", len(seen(d)), c.left)
		want(t, "operations", d.Ops(), c.fuse)
	}
	// To cut off and to sync needs no room.
	d, _ := simfs.Load([]api.File{{Name: file, Data: b[:len(b)-1]}}, 0)
	wantHolds(t, "no room", open(t, d), told(few()[:4], false), few()[:4])
}

func TestOpenOfOtherFilesNearby(t *testing.T) {
	image := []api.File{{Name: "t3.6.seg", Data: []byte("x")}, {Name: file, Data: append(whole(few(), true), 0)}, {Name: "t3.8.seg", Data: laid(slowHead(3, 8, 0))}}
	d, _ := simfs.Load(image, 1000)
	open(t, d)
	after := d.Image()
	if !slices.EqualFunc(after[:1], image[:1], sameFile) || !slices.EqualFunc(after[2:], image[2:], sameFile) || len(after) != 3 {
		t.Errorf("other files are %v", after)
	}
}

func sameFile(a, b api.File) bool { return a.Name == b.Name && bytes.Equal(a.Data, b.Data) }
