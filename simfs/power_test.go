package simfs_test

import (
	"math"
	"strings"
	"testing"

	"chronicle/api"
	"chronicle/simfs"
)

// 3.12
func TestFuse(t *testing.T) {
	for _, line := range []string{"create c", "append a x", "append a", "truncate a 1", "truncate a 2", "sync a", "syncdir", "rename a c", "rename a b", "remove a"} {
		for n := range 4 {
			d := fresh(t, "create a; append a xy; create b; append b 1")
			d.Fuse(n)
			for range n {
				do(t, d, "sync b")
			}
			want(t, "Dead ahead", d.Dead(), false)
			image, used, ops := shown(d.Image()), d.Used(), d.Ops()
			left := shown(d.Crash([]int{2, 1, 0}))
			want(t, line, parse(line).on(d), api.ErrDead)
			want(t, "Dead behind "+line, d.Dead(), true)
			want(t, "Image behind "+line, shown(d.Image()), image)
			want(t, "Used behind "+line, d.Used(), used)
			want(t, "Ops behind "+line, d.Ops(), ops)
			want(t, "Crash behind "+line, shown(d.Crash([]int{2, 1, 0})), left)
			want(t, "the next one", d.SyncDir(), api.ErrDead)
		}
	}
}

// What is refused for another reason does not count, and lets no power go.
func TestFuseCountsWhatIsDone(t *testing.T) {
	d, _ := simfs.New(3)
	do(t, d, "create a; append a xyz")
	refusals := func() {
		for _, line := range []string{"create a", "create A", "append a x", "append b", "append A", "truncate a 4", "truncate a -1", "truncate b 0", "truncate A 0", "sync b", "sync A", "rename a a", "rename b c", "rename a A", "remove b", "remove A"} {
			if e := parse(line).on(d); e == api.OK || e == api.ErrDead {
				t.Fatalf("%s = %d", line, e)
			}
		}
		d.Read("a", 0, 3)
		d.Read("b", 0, 3)
		d.Size("a")
		d.List()
		d.Used()
		d.SetQuota(3)
		d.Image()
		d.Crash(nil)
	}
	d.Fuse(2)
	refusals()
	do(t, d, "append a")
	refusals()
	do(t, d, "sync a")
	refusals()
	want(t, "Dead", d.Dead(), false)
	want(t, "Remove", d.Remove("a"), api.ErrDead)
	want(t, "Dead", d.Dead(), true)
	want(t, "Ops", d.Ops(), 4)
}

func TestFuseInAnothersPlace(t *testing.T) {
	for _, c := range []struct {
		fuses []int
		done  int
	}{
		{[]int{0, 2}, 2}, {[]int{5, 1}, 1}, {[]int{3, 0}, 0}, {[]int{-1, 1}, 1}, {[]int{0, -1}, 9}, {[]int{2, -7}, 9}, {[]int{1, math.MinInt}, 9}, {[]int{1, math.MaxInt}, 9}, {[]int{}, 9},
	} {
		d := fresh(t, "")
		for _, n := range c.fuses {
			d.Fuse(n)
		}
		done := 0
		for range 9 {
			if d.SyncDir() == api.OK {
				done++
			}
		}
		want(t, "done", done, c.done)
		want(t, "Dead", d.Dead(), c.done < 9)
	}
	d := fresh(t, "")
	d.Fuse(3)
	do(t, d, "create a; create b")
	d.Fuse(2)
	do(t, d, "create c; create d")
	want(t, "Create", d.Create("e"), api.ErrDead)
}

// The power does not come back.
func TestDeadStaysDead(t *testing.T) {
	d := fresh(t, "create a; append a xy")
	d.Fuse(0)
	want(t, "Sync", d.Sync("a"), api.ErrDead)
	for _, n := range []int{-1, 0, 5} {
		d.Fuse(n)
		want(t, "Dead", d.Dead(), true)
		want(t, "Sync", d.Sync("a"), api.ErrDead)
		want(t, "Ops", d.Ops(), 2)
	}
	again, e := simfs.Load(d.Crash([]int{1, 0, 1}), 100)
	want(t, "Load", e, api.OK)
	want(t, "Dead of what is loaded", again.Dead(), false)
	do(t, again, "append a z; sync a")
	want(t, "Image", shown(again.Image()), "a:xz")
}

// 3.14
func TestCrash(t *testing.T) {
	for _, c := range []struct {
		text  string
		picks []int
		left  string
	}{
		// a new file
		{"create a; append a xy", nil, ""}, {"create a; append a xy", []int{1}, "a:"}, {"create a; append a xy", []int{1, 1}, "a:xy"}, {"create a; append a xy", []int{1, 0, 1}, "a:x"}, {"create a; append a xy", []int{1, 0, 2}, "a:xy"}, {"create a; append a xy", []int{1, 0, 3}, "a:"},
		// picks below 0, too many
		{"create a; append a xy", []int{-1, -1}, "a:xy"}, {"create a; append a xy", []int{-2, -1}, ""}, {"create a; append a xy", []int{-1, -2, -2}, "a:x"}, {"create a; append a xy", []int{3, 2, 4, 1, 1, 1}, "a:x"}, {"create a; append a xy", []int{math.MinInt + 1, math.MaxInt}, "a:xy"}, {"create a; append a xy", []int{math.MaxInt, math.MinInt, math.MinInt}, "a:x"},
		// since the last Sync, the last SyncDir
		{"create a; append a xy; sync a", nil, ""}, {"create a; append a xy; sync a", []int{1, 1, 1}, "a:xy"}, {"create a; append a xy; sync a; syncdir", nil, "a:xy"}, {"create a; append a xy; sync a; append a z", []int{1}, "a:xy"}, {"create a; append a xy; sync a; append a z", []int{1, 1}, "a:xyz"},
		{"create a; syncdir; create b; remove a", []int{0}, "a:"}, {"create a; syncdir; create b; remove a", []int{1}, "a: b:"}, {"create a; syncdir; create b; remove a", []int{2}, "b:"}, {"create a; syncdir; create b; remove a", []int{3}, "a:"},
		// truncations, and appends torn behind them
		{"create a; append a xy; sync a; syncdir; truncate a 1; append a zk", nil, "a:xy"}, {"create a; append a xy; sync a; syncdir; truncate a 1; append a zk", []int{0, 1}, "a:x"}, {"create a; append a xy; sync a; syncdir; truncate a 1; append a zk", []int{0, 1, 1}, "a:xz"}, {"create a; append a xy; sync a; syncdir; truncate a 1; append a zk", []int{0, 2}, "a:xzk"},
		{"create a; append a xy; truncate a 0; append a 1; syncdir", []int{0, 2, 1}, "a:1"}, {"create a; append a xy; truncate a 0; append a 1; syncdir", []int{0, 1}, "a:xy"},
		// a truncation takes no second pick, an append of no bytes does
		{"create a; append a xy; sync a; truncate a 1; create b; append b 1; syncdir", []int{0, 0, 1}, "a:xy b:1"}, {"create a; append a; create b; append b 1; syncdir", []int{0, 0, 1}, "a: b:"}, {"create a; append a; create b; append b 1; syncdir", []int{0, 0, 0, 1}, "a: b:1"}, {"create a; append a; create b; append b 1; syncdir", []int{0, 1, 1}, "a: b:1"},
		{"create a; append a; append a x; syncdir", []int{0, 0, 9}, "a:"}, {"create a; append a; append a x; syncdir", []int{0, 1, 1}, "a:x"},
		// names rising take the picks
		{"create b; create a; append a 1; append b 2; syncdir", []int{0, 1, 1}, "a:1 b:2"}, {"create b; create a; append a 1; append b 2; syncdir", []int{0, 0, 0, 1}, "a: b:2"}, {"create b; create a; append a 1; append b 2; syncdir", []int{0, 1, 0, 0}, "a:1 b:"},
		{"create b; append b 1; create a; append a 2; syncdir; rename b 0", []int{1, 1}, "0:1 a:"}, {"create b; append b 1; create a; append a 2; syncdir; rename b 0", []int{0, 1}, "a:2 b:"},
		// a file of which only a crash knows takes picks, one that is not led to takes none
		{"create a; append a 1; create b; append b 2; syncdir; remove a", []int{1, 1}, "b:2"}, {"create a; append a 1; create b; append b 2; syncdir; remove a", []int{0, 1, 1}, "a:1 b:2"},
		// renamed, removed, renamed over with changes
		{"create a; append a xy; syncdir; rename a c", []int{0, 1}, "a:xy"}, {"create a; append a xy; syncdir; rename a c", []int{1, 1}, "c:xy"}, {"create a; append a xy; syncdir; rename a c; append c z", []int{0, 2}, "a:xyz"}, {"create a; append a xy; syncdir; rename a c; sync c", nil, "a:xy"},
		{"create a; append a xy; syncdir; remove a", nil, "a:"}, {"create a; append a xy; syncdir; remove a", []int{0, 1}, "a:xy"}, {"create a; append a xy; syncdir; remove a", []int{1, 1}, ""},
		{"create a; append a xy; syncdir; remove a; create a; append a k", []int{2, 1}, "a:k"}, {"create a; append a xy; syncdir; remove a; create a; append a k", []int{0, 1}, "a:xy"}, {"create a; append a xy; syncdir; remove a; create a; append a k", []int{1}, ""},
		{"create a; append a old; syncdir; create b; append b new; rename b a", []int{0, 1}, "a:old"}, {"create a; append a old; syncdir; create b; append b new; rename b a", []int{1, 1, 1}, "a:old b:new"}, {"create a; append a old; syncdir; create b; append b new; rename b a", []int{2, 0, 2}, "a:ne"}, {"create a; append a old; syncdir; create b; append b new; sync b; rename b a", []int{2}, "a:new"},
		{"create a; append a xy; sync a; syncdir; create b; append b new; rename b a; remove a", []int{2, 1}, "a:new"}, {"create a; append a xy; sync a; syncdir; create b; append b new; rename b a; remove a", []int{3}, ""},
	} {
		d := fresh(t, c.text)
		before := looks(d)
		if got := shown(d.Crash(c.picks)); got != c.left {
			t.Errorf("%s: Crash(%v) = %q, want %q", c.text, c.picks, got, c.left)
		}
		want(t, c.text+": nothing is changed", looks(d), before)
		d.Fuse(0)
		d.SyncDir()
		if got := shown(d.Crash(c.picks)); got != c.left {
			t.Errorf("%s: Crash(%v) without power = %q, want %q", c.text, c.picks, got, c.left)
		}
	}
}

// Changes since Load, which is no change itself.
func TestCrashOfLoaded(t *testing.T) {
	for _, c := range []struct {
		text  string
		picks []int
		left  string
	}{
		{"", []int{1, 1, 1}, "a:12 b:3"}, {"append b 4", []int{0, 0, 1}, "a:12 b:34"}, {"append b 4", []int{0, 1}, "a:12 b:3"}, {"truncate a 0; remove b", []int{0, 1}, "a: b:3"}, {"truncate a 0; remove b", []int{1, 0}, "a:12"}, {"rename b a", []int{1}, "a:3"}, {"rename b a", nil, "a:12 b:3"},
	} {
		d := load(t, "a:12 b:3")
		do(t, d, c.text)
		if got := shown(d.Crash(c.picks)); got != c.left {
			t.Errorf("%s: Crash(%v) = %q, want %q", c.text, c.picks, got, c.left)
		}
	}
}

// 3.17
func TestSyncedIsLeftWhole(t *testing.T) {
	for _, text := range []string{
		"", "create a", "create a; append a xy; append a z", "create a; append a xy; create b; rename a b; create a; append a 1; truncate a 0; remove b", "create a; append a 12345; truncate a 2; append a k; rename a c; create a; append a z",
	} {
		d := fresh(t, text)
		for _, f := range d.Image() {
			do(t, d, "sync "+f.Name)
		}
		do(t, d, "syncdir")
		whole := shown(d.Image())
		again, e := simfs.Load(d.Image(), 100)
		want(t, "Load", e, api.OK)
		want(t, "Image of what is loaded", shown(again.Image()), whole)
		for _, picks := range [][]int{nil, {0}, {1, 1, 1, 1}, {2, 2, 2}, {-1, -1, -1}, {3, 0, 1, 0, 1}} {
			want(t, text+": Crash", shown(d.Crash(picks)), whole)
			want(t, text+": Crash of what is loaded", shown(again.Crash(picks)), whole)
		}
	}
}

// 3.18
func TestRenameIsWholeOrNot(t *testing.T) {
	for _, sync := range []string{"", "sync b;"} {
		d := load(t, "a:old b:")
		do(t, d, "append b new;"+sync+" rename b a")
		for x := range 5 {
			for y := range 5 {
				for z := range 5 {
					left := shown(d.Crash([]int{x, y, z}))
					kept := strings.HasPrefix(left, "a:old b:")
					renamed := strings.HasPrefix(left, "a:") && strings.HasPrefix("a:new", left)
					if kept == renamed || sync != "" && left != "a:old b:new" && left != "a:new" {
						t.Errorf("%q: Crash(%d, %d, %d) = %q", sync, x, y, z, left)
					}
				}
			}
		}
	}
}
