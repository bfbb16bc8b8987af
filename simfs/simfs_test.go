package simfs_test

import (
	"math"
	"slices"
	"strings"
	"testing"

	"chronicle/api"
	"chronicle/simfs"
)

// quotas are those at the edges, and what they are answered.
var quotas = []struct {
	quota  int
	wanted api.Errno
}{
	{math.MinInt, api.ErrArg}, {-1, api.ErrArg}, {0, api.OK}, {1, api.OK}, {api.MaxQuota - 1, api.OK}, {api.MaxQuota, api.OK}, {api.MaxQuota + 1, api.ErrArg}, {math.MaxInt, api.ErrArg},
}

// 3.1
func TestNew(t *testing.T) {
	for _, c := range quotas {
		d, e := simfs.New(c.quota)
		if e != c.wanted || (d == nil) != (e != api.OK) {
			t.Errorf("New(%d) = %v, %d, want %d", c.quota, d, e, c.wanted)
		}
		if e != api.OK {
			continue
		}
		want(t, "Quota", d.Quota(), c.quota)
		want(t, "Used", d.Used(), 0)
		want(t, "Ops", d.Ops(), 0)
		want(t, "Dead", d.Dead(), false)
		names, e := d.List()
		want(t, "files", len(names)+len(d.Image())+len(d.Crash([]int{1, 2, 3})), 0)
		want(t, "List", e, api.OK)
		for range 100 {
			want(t, "SyncDir without a fuse", d.SyncDir(), api.OK)
		}
	}
}

// 3.2
func TestLoadQuota(t *testing.T) {
	for _, c := range quotas {
		d, e := simfs.Load(image("a:xy"), c.quota)
		if e != c.wanted || (d == nil) != (e != api.OK) {
			t.Errorf("Load(a:xy, %d) = %v, %d, want %d", c.quota, d, e, c.wanted)
		}
		if e == api.OK {
			want(t, "Quota", d.Quota(), c.quota)
		}
	}
}

func TestLoadImages(t *testing.T) {
	for _, c := range []struct {
		names  string
		wanted api.Errno
	}{
		{"", api.OK}, {"a:", api.OK}, {"a:1 b:2", api.OK}, {"a: a.: a0: aa: b:", api.OK}, {"a-: a.: a0: a_: aa:", api.OK}, {"0: 9: a: z:", api.OK},
		{"b: a:", api.ErrImage}, {"a: a:", api.ErrImage}, {"a:1 a:2", api.ErrImage}, {"a: c: b:", api.ErrImage}, {"a: b: b:", api.ErrImage}, {"aa: a:", api.ErrImage},
		{"A:", api.ErrImage}, {"a: b/: c:", api.ErrImage}, {".a:", api.ErrImage}, {"a: ~:", api.ErrImage}, {":x", api.ErrImage},
		{strings.Repeat("n", api.MaxName) + ":", api.OK}, {strings.Repeat("n", api.MaxName+1) + ":", api.ErrImage},
	} {
		d, e := simfs.Load(image(c.names), 10)
		if e != c.wanted || (d == nil) != (e != api.OK) {
			t.Errorf("Load(%s) = %v, %d, want %d", c.names, d, e, c.wanted)
		}
		if e == api.OK {
			want(t, "Image", shown(d.Image()), c.names)
		}
	}
}

func TestLoadOrderOfErrors(t *testing.T) {
	many := make([]api.File, api.MaxFiles+1)
	for _, c := range []struct {
		image  []api.File
		quota  int
		wanted api.Errno
	}{
		{many, -1, api.ErrArg}, {many, 1, api.ErrFiles}, {many[1:], 1, api.ErrImage}, {image("A:"), -1, api.ErrArg}, {nil, 0, api.OK},
	} {
		d, e := simfs.Load(c.image, c.quota)
		if e != c.wanted || (d == nil) != (e != api.OK) {
			t.Errorf("Load of %d files, %d = %v, %d, want %d", len(c.image), c.quota, d, e, c.wanted)
		}
	}
}

func TestLoadIsDurable(t *testing.T) {
	d := load(t, "a:xy b:")
	want(t, "Ops", d.Ops(), 0)
	want(t, "Used", d.Used(), 2)
	want(t, "Dead", d.Dead(), false)
	for _, picks := range [][]int{nil, {1}, {0, 1, 1}, {7, -7, 3, 3}} {
		want(t, "Crash", shown(d.Crash(picks)), "a:xy b:")
	}
	do(t, d, "append a z; append b k; remove b")
	want(t, "Crash behind changes", shown(d.Crash(nil)), "a:xy b:")
	want(t, "Crash of all", shown(d.Crash([]int{1, 1})), "a:xyz")
}

// An image may have more bytes than the quota (example 7).
func TestLoadAboveQuota(t *testing.T) {
	d, e := simfs.Load([]api.File{{Name: "a", Data: make([]byte, 20)}}, 9)
	want(t, "Load", e, api.OK)
	want(t, "Used", d.Used(), 20)
	want(t, "Append", d.Append("a", []byte{1}), api.ErrSpace)
	want(t, "Append of none", d.Append("a", nil), api.OK)
	do(t, d, "truncate a 8; append a x")
	want(t, "Append", d.Append("a", []byte{1}), api.ErrSpace)
}

// manyNames is n names, rising.
func manyNames(n int) []string {
	var names []string
	for i := range n {
		names = append(names, "f"+string([]byte{'a' + byte(i>>12%16), 'a' + byte(i>>8%16), 'a' + byte(i>>4%16), 'a' + byte(i%16)}))
	}
	return names
}

func TestMaxFiles(t *testing.T) {
	var list []api.File
	names := manyNames(api.MaxFiles)
	for _, s := range names {
		list = append(list, api.File{Name: s})
	}
	d, e := simfs.Load(list, 10)
	want(t, "Load of MaxFiles", e, api.OK)
	got, _ := d.List()
	want(t, "List of MaxFiles", slices.Equal(got, names), true)
	want(t, "one more", d.Create("z"), api.ErrFiles)
	want(t, "one that is there", d.Create(names[9]), api.ErrExists)
	want(t, "no name", d.Create("Z"), api.ErrName)
	do(t, d, "rename "+names[0]+" z")
	want(t, "one more behind a rename", d.Create("y"), api.ErrFiles)
	do(t, d, "remove z; create y")
	want(t, "one more behind a remove", d.Create("z"), api.ErrFiles)
	do(t, d, "rename y "+names[1]+"; create y; append y x")
	want(t, "Used", d.Used(), 1)
	want(t, "Image", len(d.Image()), api.MaxFiles)
	want(t, "Crash", len(d.Crash([]int{1})), api.MaxFiles)
	want(t, "Crash between", len(d.Crash([]int{2})), api.MaxFiles-1)
}

func TestMaxFilesCreated(t *testing.T) {
	d, _ := simfs.New(0)
	for _, s := range manyNames(api.MaxFiles) {
		if e := d.Create(s); e != api.OK {
			t.Fatalf("Create(%s) = %d", s, e)
		}
	}
	want(t, "one more", d.Create("z"), api.ErrFiles)
	want(t, "Ops", d.Ops(), api.MaxFiles)
}

// Words: which texts are names.
func TestNames(t *testing.T) {
	inner := "abcdefghijklmnopqrstuvwxyz0123456789.-_"
	first := strings.TrimRight(inner, ".-_")
	for c := range 256 {
		b := string([]byte{byte(c)})
		for _, n := range []struct {
			name  string
			right bool
		}{
			{b, strings.Contains(first, b)}, {b + "a", strings.Contains(first, b)}, {"a" + b, strings.Contains(inner, b)}, {"a" + b + "a", strings.Contains(inner, b)}, {strings.Repeat("0", api.MaxName-1) + b, strings.Contains(inner, b)},
		} {
			d := fresh(t, "")
			want(t, "Create "+n.name, d.Create(n.name) == api.OK, n.right)
		}
	}
	for _, c := range []struct {
		name   string
		wanted api.Errno
	}{
		{"", api.ErrName}, {"a", api.OK}, {"9", api.OK}, {"...", api.ErrName}, {"a..", api.OK}, {"ä", api.ErrName}, {"a\x00", api.ErrName}, {"a b", api.ErrName},
		{strings.Repeat("x", api.MaxName), api.OK}, {strings.Repeat("x", api.MaxName+1), api.ErrName}, {strings.Repeat("x", 1<<20), api.ErrName},
	} {
		want(t, "Create "+c.name, fresh(t, "").Create(c.name), c.wanted)
	}
}

// 3.11
func TestNumbers(t *testing.T) {
	d := fresh(t, "create a; create b; append a 12345; append b 123; append b")
	want(t, "Used", d.Used(), 8)
	want(t, "Ops", d.Ops(), 5)
	for _, c := range []struct {
		text      string
		used, ops int
	}{
		{"truncate a 1", 4, 6}, {"sync a", 4, 7}, {"syncdir", 4, 8}, {"rename a c", 4, 9}, {"rename c b", 1, 10}, {"create a; append a 12", 3, 12}, {"remove b", 2, 13}, {"truncate a 2", 2, 14}, {"rename a b; remove b", 0, 16},
	} {
		do(t, d, c.text)
		want(t, "Used behind "+c.text, d.Used(), c.used)
		want(t, "Ops behind "+c.text, d.Ops(), c.ops)
		want(t, "Quota", d.Quota(), 100)
	}
}

func TestOpsCountsWhatIsDone(t *testing.T) {
	d := fresh(t, "create a")
	d.Create("a")
	d.Append("b", nil)
	d.Truncate("a", 1)
	d.Sync("B")
	d.Rename("a", "a")
	d.Remove("b")
	d.Read("a", 0, 1)
	d.Size("a")
	d.List()
	d.SetQuota(5)
	d.Image()
	d.Crash(nil)
	want(t, "Ops", d.Ops(), 1)
	want(t, "Ops of a loaded disk", load(t, "a: b:").Ops(), 0)
}

func TestSetQuota(t *testing.T) {
	for _, c := range quotas {
		d := fresh(t, "create a; append a xyz")
		want(t, "SetQuota", d.SetQuota(c.quota), c.wanted)
		if c.wanted == api.OK {
			want(t, "Quota", d.Quota(), c.quota)
		} else {
			want(t, "Quota behind a refusal", d.Quota(), 100)
		}
		want(t, "Used", d.Used(), 3)
		want(t, "Ops", d.Ops(), 2)
	}
}

func TestQuotaBelowUsed(t *testing.T) {
	d := fresh(t, "create a; append a xyz")
	want(t, "SetQuota", d.SetQuota(2), api.OK)
	want(t, "Append", d.Append("a", []byte("1")), api.ErrSpace)
	do(t, d, "append a; create b; append b; sync a; syncdir; rename a c; truncate c 2")
	want(t, "Append at the quota", d.Append("b", []byte("1")), api.ErrSpace)
	do(t, d, "truncate c 1; append b 1")
	want(t, "Append at the quota", d.Append("b", []byte("1")), api.ErrSpace)
	want(t, "SetQuota", d.SetQuota(3), api.OK)
	do(t, d, "append b 2")
	want(t, "Image", shown(d.Image()), "b:12 c:x")
}

// 3.13
func TestImage(t *testing.T) {
	d := fresh(t, "create b; create a; append a xy; append b 12; truncate b 1; create c; remove c; create d; rename d 0")
	want(t, "Image", shown(d.Image()), "0: a:xy b:1")
	do(t, d, "sync a; syncdir; append a z")
	want(t, "Image", shown(d.Image()), "0: a:xyz b:1")
	d.Fuse(0)
	want(t, "Append", d.Append("a", []byte("k")), api.ErrDead)
	want(t, "Image without power", shown(d.Image()), "0: a:xyz b:1")
}

// R1: a disk that nobody made is as one of the quota 0.
func TestZeroDisk(t *testing.T) {
	empty, _ := simfs.New(0)
	want(t, "a zero disk", looks(&simfs.Disk{}), looks(empty))
	var d simfs.Disk
	want(t, "Remove", d.Remove("a"), api.ErrNoFile)
	want(t, "Rename", d.Rename("a", "b"), api.ErrNoFile)
	want(t, "SyncDir", d.SyncDir(), api.OK)
	want(t, "Create", d.Create("a"), api.OK)
	want(t, "Append", d.Append("a", []byte("x")), api.ErrSpace)
	want(t, "SetQuota", d.SetQuota(1), api.OK)
	want(t, "Append", d.Append("a", []byte("x")), api.OK)
	want(t, "Crash", shown(d.Crash([]int{1, 1})), "a:x")
}
