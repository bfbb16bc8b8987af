package simfs_test

import (
	"math"
	"slices"
	"strings"
	"testing"

	"chronicle/api"
	"chronicle/simfs"
)

// refused does an operation that must be answered an error, and must change nothing; the fuse neither.
func refused(t *testing.T, d *simfs.Disk, line string, wanted api.Errno) {
	t.Helper()
	before := looks(d)
	want(t, line, parse(line).on(d), wanted)
	want(t, line+" changes nothing", looks(d), before)
}

// 3.3
func TestCreate(t *testing.T) {
	d := fresh(t, "create b; append b xy; create a")
	want(t, "Image", shown(d.Image()), "a: b:xy")
	refused(t, d, "create b", api.ErrExists)
	refused(t, d, "create B", api.ErrName)
	refused(t, d, "create", api.ErrName)
	do(t, d, "remove b; create b")
	want(t, "Image", shown(d.Image()), "a: b:")
	do(t, d, "rename b c; create b")
	want(t, "Image", shown(d.Image()), "a: b: c:")
	d.SetQuota(0)
	do(t, d, "create d")
}

// 3.4
func TestAppend(t *testing.T) {
	d := fresh(t, "create a; create b; append a xy; append b 1; append a zz; append a")
	want(t, "Image", shown(d.Image()), "a:xyzz b:1")
	refused(t, d, "append c x", api.ErrNoFile)
	refused(t, d, "append c", api.ErrNoFile)
	refused(t, d, "append C x", api.ErrName)
	d.Remove("b")
	refused(t, d, "append b x", api.ErrNoFile)
	whole := make([]byte, 256)
	for i := range whole {
		whole[i] = byte(i)
	}
	d.SetQuota(1000)
	want(t, "Append of all bytes", d.Append("a", whole), api.OK)
	got, _ := d.Read("a", 4, 256)
	want(t, "all bytes", string(got), string(whole))
}

func TestAppendAtQuota(t *testing.T) {
	d, _ := simfs.New(10)
	do(t, d, "create a; create b; append a 123456")
	refused(t, d, "append b 12345", api.ErrSpace)
	refused(t, d, "append c 12345", api.ErrNoFile)
	do(t, d, "append b 1234")
	want(t, "Used", d.Used(), 10)
	refused(t, d, "append a x", api.ErrSpace)
	do(t, d, "append a")
	want(t, "Used", d.Used(), 10)
	do(t, d, "remove b")
	refused(t, d, "append a 12345", api.ErrSpace)
	do(t, d, "append a 1234; truncate a 9")
	refused(t, d, "append a 12", api.ErrSpace)
	do(t, d, "append a 1")

	none, _ := simfs.New(0)
	do(t, none, "create a; append a")
	refused(t, none, "append a x", api.ErrSpace)
}

// 3.5
func TestTruncate(t *testing.T) {
	for _, c := range []struct {
		n      int
		wanted api.Errno
		left   string
	}{
		{0, api.OK, ""}, {1, api.OK, "1"}, {3, api.OK, "123"}, {4, api.OK, "1234"}, {5, api.ErrArg, "1234"}, {-1, api.ErrArg, "1234"}, {math.MinInt, api.ErrArg, "1234"}, {math.MaxInt, api.ErrArg, "1234"},
	} {
		d := fresh(t, "create a; append a 1234")
		before := looks(d)
		want(t, "Truncate", d.Truncate("a", c.n), c.wanted)
		want(t, "Image", shown(d.Image()), "a:"+c.left)
		if c.wanted != api.OK {
			want(t, "Truncate refused", looks(d), before)
			continue
		}
		want(t, "Used", d.Used(), len(c.left))
		do(t, d, "append a k")
		want(t, "Image", shown(d.Image()), "a:"+c.left+"k")
	}
	d := fresh(t, "create a")
	refused(t, d, "truncate a 1", api.ErrArg)
	refused(t, d, "truncate b -1", api.ErrNoFile)
	refused(t, d, "truncate B -1", api.ErrName)
}

// 3.6
func TestSync(t *testing.T) {
	d := fresh(t, "create a; append a xy; create b; append b 1; syncdir; sync a")
	for _, picks := range [][]int{nil, {0, 1}, {0, 2}} {
		want(t, "Crash", shown(d.Crash(picks)[:1]), "a:xy")
	}
	want(t, "b has its change", shown(d.Crash([]int{0, 0, 1})), "a:xy b:1")
	want(t, "b is not synced", shown(d.Crash(nil)), "a:xy b:")
	do(t, d, "truncate a 1; append a zz; truncate a 2; sync a; sync b")
	want(t, "Crash", shown(d.Crash([]int{0, 1, 1})), "a:xz b:1")
	refused(t, d, "sync c", api.ErrNoFile)
	refused(t, d, "sync C", api.ErrName)
}

// It is the same file, whatever it is called.
func TestSyncHoldsUnderAnyName(t *testing.T) {
	d := fresh(t, "create a; append a xy; syncdir; rename a b; sync b")
	want(t, "Crash", shown(d.Crash(nil)), "a:xy")
	do(t, d, "append b z; remove b")
	want(t, "Crash", shown(d.Crash([]int{1, 1})), "b:xyz")
	want(t, "Crash", shown(d.Crash([]int{0, 0})), "a:xy")
}

// 3.7
func TestSyncDir(t *testing.T) {
	d := fresh(t, "create a; append a xy; create b; rename b c; remove a; create d; syncdir")
	for _, picks := range [][]int{nil, {1}, {2}, {-1}} {
		want(t, "Crash", shown(d.Crash(picks)), "c: d:")
	}
	do(t, d, "append c x; syncdir")
	want(t, "SyncDir syncs no file", shown(d.Crash(nil)), "c: d:")
	want(t, "and no change is lost", shown(d.Crash([]int{0, 1})), "c:x d:")
}

// 3.8
func TestRename(t *testing.T) {
	d := fresh(t, "create a; append a xy; create b; append b 123; rename a c")
	want(t, "over none", shown(d.Image()), "b:123 c:xy")
	do(t, d, "rename c b")
	want(t, "over a file", shown(d.Image()), "b:xy")
	want(t, "Used", d.Used(), 2)
	refused(t, d, "append c x", api.ErrNoFile)
	do(t, d, "append b z; rename b a; rename a b")
	want(t, "there and back", shown(d.Image()), "b:xyz")
	want(t, "Used", d.Used(), 3)
}

func TestRenameRefused(t *testing.T) {
	d := fresh(t, "create a; create b; append b x")
	for _, c := range []struct {
		line   string
		wanted api.Errno
	}{
		{"rename a A", api.ErrName}, {"rename A a", api.ErrName}, {"rename A A", api.ErrName}, {"rename c C", api.ErrName}, {"rename a", api.ErrName}, {"rename", api.ErrName},
		{"rename a a", api.ErrArg}, {"rename c c", api.ErrArg}, {"rename c a", api.ErrNoFile}, {"rename c d", api.ErrNoFile},
	} {
		refused(t, d, c.line, c.wanted)
	}
}

// 3.9
func TestRemove(t *testing.T) {
	d := fresh(t, "create a; create b; append a xy; append b 1; remove a")
	want(t, "Image", shown(d.Image()), "b:1")
	want(t, "Used", d.Used(), 1)
	refused(t, d, "remove a", api.ErrNoFile)
	refused(t, d, "remove c", api.ErrNoFile)
	refused(t, d, "remove C", api.ErrName)
	refused(t, d, "sync a", api.ErrNoFile)
	do(t, d, "remove b")
	want(t, "Image", shown(d.Image()), "")
	want(t, "Used", d.Used(), 0)
}

// 3.10
func TestRead(t *testing.T) {
	d := fresh(t, "create a; append a 1234; create b")
	for _, c := range []struct {
		name   string
		at, n  int
		got    string
		wanted api.Errno
	}{
		{"a", 0, 0, "", api.OK}, {"a", 0, 1, "1", api.OK}, {"a", 0, 4, "1234", api.OK}, {"a", 0, 5, "1234", api.OK}, {"a", 0, math.MaxInt, "1234", api.OK},
		{"a", 1, 2, "23", api.OK}, {"a", 3, 1, "4", api.OK}, {"a", 3, math.MaxInt, "4", api.OK}, {"a", 4, 0, "", api.OK}, {"a", 4, 1, "", api.OK}, {"a", 4, math.MaxInt, "", api.OK},
		{"a", 5, 0, "", api.ErrArg}, {"a", -1, 1, "", api.ErrArg}, {"a", 0, -1, "", api.ErrArg}, {"a", 4, -1, "", api.ErrArg}, {"a", math.MinInt, 1, "", api.ErrArg}, {"a", math.MaxInt, math.MaxInt, "", api.ErrArg}, {"a", 0, math.MinInt, "", api.ErrArg},
		{"b", 0, 3, "", api.OK}, {"b", 1, 0, "", api.ErrArg}, {"c", -1, -1, "", api.ErrNoFile}, {"C", -1, -1, "", api.ErrName}, {"", 0, 0, "", api.ErrName},
	} {
		b, e := d.Read(c.name, c.at, c.n)
		if string(b) != c.got || e != c.wanted {
			t.Errorf("Read(%s, %d, %d) = %q, %d, want %q, %d", c.name, c.at, c.n, b, e, c.got, c.wanted)
		}
	}
	want(t, "Ops", d.Ops(), 3)
}

func TestSizeAndList(t *testing.T) {
	d := fresh(t, "create b; create a-1; create a.1; create a; create 0; append a xyz; append b 1; truncate a 2; rename b a_1")
	for _, c := range []struct {
		name   string
		size   int
		wanted api.Errno
	}{
		{"a", 2, api.OK}, {"a_1", 1, api.OK}, {"0", 0, api.OK}, {"b", 0, api.ErrNoFile}, {"B", 0, api.ErrName}, {strings.Repeat("b", 33), 0, api.ErrName},
	} {
		n, e := d.Size(c.name)
		if n != c.size || e != c.wanted {
			t.Errorf("Size(%s) = %d, %d, want %d, %d", c.name, n, e, c.size, c.wanted)
		}
	}
	names, e := d.List()
	if e != api.OK || !slices.Equal(names, []string{"0", "a", "a-1", "a.1", "a_1"}) {
		t.Errorf("List = %v, %d", names, e)
	}
}

// R1: a nil disk.
func TestNilDisk(t *testing.T) {
	var d *simfs.Disk
	for _, line := range []string{"create a", "create A", "append a x", "append A", "truncate a 0", "truncate A -1", "sync a", "sync A", "syncdir", "rename a b", "rename a a", "rename A b", "remove a", "remove A"} {
		want(t, line, parse(line).on(d), api.ErrNil)
	}
	b, e := d.Read("A", -1, -1)
	want(t, "Read", e, api.ErrNil)
	n, e := d.Size("a")
	want(t, "Size", e, api.ErrNil)
	names, e := d.List()
	want(t, "List", e, api.ErrNil)
	want(t, "SetQuota", d.SetQuota(1), api.ErrNil)
	want(t, "SetQuota", d.SetQuota(-1), api.ErrNil)
	d.Fuse(0)
	want(t, "Dead", d.Dead(), false)
	want(t, "numbers", d.Used()+d.Quota()+d.Ops()+n, 0)
	want(t, "lists", len(b)+len(names)+len(d.Image())+len(d.Crash(nil))+len(d.Crash([]int{1})), 0)
}

// R7: a disk without power answers ErrDead, whatever else applies.
func TestDeadDisk(t *testing.T) {
	d := fresh(t, "create a; append a xy; syncdir; create b")
	before := shown(d.Image())
	d.Fuse(0)
	want(t, "SyncDir", d.SyncDir(), api.ErrDead)
	for _, line := range []string{"create c", "create a", "create A", "append a x", "append a", "append c x", "append A", "truncate a 0", "truncate a -1", "truncate c 0", "truncate A 0", "sync a", "sync c", "sync A", "syncdir", "rename a c", "rename a a", "rename c b", "rename A b", "remove a", "remove c", "remove A"} {
		refused(t, d, line, api.ErrDead)
	}
	for _, name := range []string{"a", "c", "A"} {
		b, e := d.Read(name, 0, 2)
		want(t, "Read", e, api.ErrDead)
		n, e := d.Size(name)
		want(t, "Size", e, api.ErrDead)
		want(t, "zeros", len(b)+n, 0)
	}
	_, e := d.Read("a", -1, -1)
	want(t, "Read", e, api.ErrDead)
	names, e := d.List()
	want(t, "List", e, api.ErrDead)
	want(t, "names", len(names), 0)
	want(t, "Used", d.Used(), 2)
	want(t, "Ops", d.Ops(), 4)
	want(t, "SetQuota", d.SetQuota(-1), api.ErrArg)
	want(t, "SetQuota", d.SetQuota(1), api.OK)
	want(t, "Quota", d.Quota(), 1)
	want(t, "Image", shown(d.Image()), before)
	want(t, "Crash", shown(d.Crash([]int{1, 1})), "a:xy b:")
	want(t, "Crash", shown(d.Crash(nil)), "a:")
}
