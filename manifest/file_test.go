package manifest_test

import (
	"fmt"
	"math"
	"strings"
	"testing"

	"chronicle/api"
	"chronicle/manifest"
	"chronicle/simfs"
)

// undone fails unless a call on a disk changed nothing on it.
func undone(t *testing.T, what string, d *simfs.Disk, call func()) {
	t.Helper()
	image, left, ops, dead := d.Image(), d.Crash(nil), d.Ops(), d.Dead()
	call()
	wantImage(t, what+": files", d.Image(), filesOf(image))
	wantImage(t, what+": what is durable", d.Crash(nil), filesOf(left))
	want(t, what+": operations", d.Ops(), ops)
	want(t, what+": no power", d.Dead(), dead)
}

// 7.5
func TestReplace(t *testing.T) {
	for name, c := range map[string]struct {
		files map[string]string
		b     string
	}{
		"catalog":   {map[string]string{"catalog": "old", "a": "A", "catalog.": "B"}, "new one"},
		"t3.man":    {map[string]string{"t3.man.tmp.tmp": "C", "t3": "D"}, "new"},
		"a":         {map[string]string{"a.tmp": "left over, and longer", "b.tmp": "E"}, "new"},
		"b":         {map[string]string{"b": "old", "b.tmp": "left over"}, "a new one that is longer than all that there was"},
		"c":         {map[string]string{"c": "old"}, ""},
		"d.tmp":     {map[string]string{"d": "F", "d.tmp": "old", "d.tmp.tmp": "left over"}, "new"},
		"same":      {map[string]string{"same": "same"}, "same"},
		"any-_name": {map[string]string{}, string(make([]byte, 5000))},
		"0":         {map[string]string{"0.tmp": ""}, "\x00\xff"},
	} {
		d := holding(t, c.files)
		_, had := c.files[name+".tmp"]
		want(t, "Replace of "+name, manifest.Replace(d, name, []byte(c.b)), api.OK)
		delete(c.files, name+".tmp")
		c.files[name] = c.b
		wantImage(t, name, d.Image(), c.files)
		for _, picks := range [][]int{nil, {1, 1}, {2, 2, 2, 2}, {3, 3, 3, 3}} {
			wantImage(t, name+" behind a crash", d.Crash(picks), c.files)
		}
		ops := 5
		if had {
			ops++
		}
		want(t, name+": operations", d.Ops(), ops)
	}
}

// Bytes of any kind, nil too.
func TestReplaceByNil(t *testing.T) {
	d := holding(t, map[string]string{"a": "old"})
	want(t, "Replace", manifest.Replace(d, "a", nil), api.OK)
	wantImage(t, "no bytes", d.Crash(nil), map[string]string{"a": ""})
	want(t, "operations", d.Ops(), 5)
}

// wrongNames is names that are none, and one that is none only with .tmp behind.
func wrongNames() []string {
	return []string{"", "A", ".a", "-a", "_a", "a/b", "a b", "é", "\xff", ".tmp", "a\x00", strings.Repeat("a", 33), strings.Repeat("a", 32), strings.Repeat("a", 29), strings.Repeat("a", 1<<16)}
}

func TestReplaceTellsTheFirstError(t *testing.T) {
	for _, name := range append(wrongNames(), "a") {
		want(t, "a nil disk", manifest.Replace(nil, name, []byte("b")), api.ErrNil)
		dead := unpowered(t, map[string]string{"a": "old", "a.tmp": "x"})
		undone(t, "no power", dead, func() {
			want(t, fmt.Sprintf("no power and %.40q", name), manifest.Replace(dead, name, []byte("b")), api.ErrDead)
		})
	}
	files := map[string]string{"a": "old", strings.Repeat("a", 32): "B", strings.Repeat("a", 29): "C"}
	for _, name := range wrongNames() {
		for _, quota := range []int{0, 1 << 20} {
			d := holding(t, files)
			d.SetQuota(quota)
			d.Fuse(0)
			undone(t, "no name", d, func() {
				want(t, fmt.Sprintf("%.40q", name), manifest.Replace(d, name, []byte("b")), api.ErrName)
			})
		}
	}
	d := holding(t, files)
	want(t, "as long as can be", manifest.Replace(d, strings.Repeat("a", 28), []byte("b")), api.OK)
	files[strings.Repeat("a", 28)] = "b"
	wantImage(t, "as long as can be", d.Crash(nil), files)
}

func TestReplaceWithoutRoom(t *testing.T) {
	b := "a new one"
	for what, files := range map[string]map[string]string{
		"no file":           {"other": "xyz"},
		"an old file":       {"other": "xyz", "a": "old"},
		"a file left over":  {"other": "xyz", "a.tmp": "left"},
		"both":              {"other": "xyz", "a": "old", "a.tmp": "left over, and longer"},
		"nothing left over": {"other": "xyz", "a": "old", "a.tmp": ""},
	} {
		left, had := files["a.tmp"]
		delete(files, "a.tmp")
		for _, room := range []int{0, 1, len(b) - 1} {
			d := holding(t, files)
			if had {
				d, _ = simfs.Load(imageOf(merged(files, "a.tmp", left)), 1<<20)
			}
			d.SetQuota(d.Used() - len(left) + room)
			want(t, fmt.Sprint(what, ", room for ", room), manifest.Replace(d, "a", []byte(b)), api.ErrSpace)
			wantImage(t, what, d.Image(), files)
			want(t, "power", d.Dead(), false)
			ops := 2 // the file with .tmp made, and removed
			if had {
				ops++
			}
			want(t, what+": operations", d.Ops(), ops)
			d.SetQuota(d.Used() + len(b))
			want(t, what+", just as much room", manifest.Replace(d, "a", []byte(b)), api.OK)
			wantImage(t, what, d.Crash(nil), merged(files, "a", b))
		}
	}
	d := holding(t, map[string]string{"a": "old"})
	d.SetQuota(0)
	want(t, "no bytes ask for no room", manifest.Replace(d, "a", nil), api.OK)
}

// merged is files with one more, or another one of that name.
func merged(files map[string]string, name, b string) map[string]string {
	all := map[string]string{name: b}
	for n, old := range files {
		if n != name {
			all[n] = old
		}
	}
	return all
}

// crowd is a disk with as many files as may be, some of them by name.
func crowd(t *testing.T, names ...string) *simfs.Disk {
	t.Helper()
	files := map[string]string{}
	for _, name := range names {
		files[name] = "old"
	}
	for i := 0; len(files) < 1<<16; i++ {
		files[fmt.Sprintf("f%05d", i)] = ""
	}
	return holding(t, files)
}

func TestReplaceWithoutRoomForAName(t *testing.T) {
	for _, names := range [][]string{{"a"}, {}} {
		d := crowd(t, names...)
		undone(t, "no room for a name", d, func() {
			want(t, "Replace", manifest.Replace(d, "a", []byte("new")), api.ErrFiles)
		})
		d.Remove("f00000")
		want(t, "one file less", manifest.Replace(d, "a", []byte("new")), api.OK)
	}
	d := crowd(t, "a", "a.tmp")
	want(t, "one of them left over", manifest.Replace(d, "a", []byte("new")), api.OK)
	files := filesOf(d.Image())
	want(t, "its bytes", files["a"], "new")
	want(t, "files", len(files), 1<<16-1)
}

// The power goes with each operation in turn: which files there are then tells their order.
func TestReplaceWithoutPower(t *testing.T) {
	old := map[string]string{"a": "old", "b": "B"}
	beside := func(b string) map[string]string { return merged(old, "a.tmp", b) }
	done := merged(old, "a", "new")
	for fuse, files := range []map[string]string{beside("left"), old, beside(""), beside("new"), beside("new"), done} {
		d := holding(t, beside("left"))
		d.Fuse(fuse)
		want(t, fmt.Sprint("power for ", fuse), manifest.Replace(d, "a", []byte("new")), api.ErrDead)
		wantImage(t, fmt.Sprint("power for ", fuse), d.Image(), files)
		want(t, "operations", d.Ops(), fuse)
		want(t, "no power", d.Dead(), true)

		if fuse == 0 {
			continue
		}
		d = holding(t, old)
		d.Fuse(fuse - 1)
		want(t, fmt.Sprint("nothing left over, power for ", fuse-1), manifest.Replace(d, "a", []byte("new")), api.ErrDead)
		wantImage(t, fmt.Sprint("nothing left over, power for ", fuse-1), d.Image(), files)
	}
	d := holding(t, beside("left"))
	d.Fuse(6)
	want(t, "power for 6", manifest.Replace(d, "a", []byte("new")), api.OK)
	want(t, "no power", d.Dead(), false)
}

// All changes of the directory are left, and of the file's bytes none that was not synced: by the rename it is.
func TestReplaceSyncsAheadOfTheName(t *testing.T) {
	for fuse, c := range []struct {
		changes int
		files   map[string]string
	}{
		{0, map[string]string{}},
		{1, map[string]string{"a.tmp": ""}},
		{1, map[string]string{"a.tmp": ""}},
		{1, map[string]string{"a.tmp": "new"}},
		{2, map[string]string{"a": "new"}},
	} {
		d := holding(t, nil)
		d.Fuse(fuse)
		want(t, "Replace", manifest.Replace(d, "a", []byte("new")), api.ErrDead)
		wantImage(t, fmt.Sprint("power for ", fuse), d.Crash([]int{c.changes}), c.files)
		wantImage(t, "no name was synced", d.Crash(nil), map[string]string{})
	}
}

// The append is refused room, and with the removal the power goes: what was refused is told.
func TestReplaceWithoutRoomOrPower(t *testing.T) {
	d := holding(t, map[string]string{"a": "old"})
	d.SetQuota(4)
	d.Fuse(1)
	want(t, "Replace", manifest.Replace(d, "a", []byte("new")), api.ErrSpace)
	want(t, "no power", d.Dead(), true)
	wantImage(t, "what is seen", d.Image(), map[string]string{"a": "old", "a.tmp": ""})
}

// 7.6
func TestSaveAndLoad(t *testing.T) {
	d := holding(t, map[string]string{"other": "xyz"})
	files := map[string]string{"other": "xyz"}
	for _, m := range manifests() {
		for _, id := range []int{0, 3, lastId} {
			m.Id = id
			want(t, "Save", manifest.Save(d, m), api.OK)
			files[fmt.Sprintf("t%d.man", id)] = string(slowEncode(m))
			wantImage(t, "Save", d.Image(), files)
			wantImage(t, "what is durable", d.Crash([]int{1, 1, 1}), files)
			undone(t, "Load", d, func() {
				got, e := manifest.Load(d, id)
				wantManifest(t, "Load", got, e, m)
			})
		}
	}
	want(t, "operations", d.Ops(), 5*3*len(manifests()))
}

func TestSaveAndLoadOfCatalogues(t *testing.T) {
	d := holding(t, map[string]string{"other": "xyz"})
	for _, c := range catalogues() {
		want(t, "SaveCatalogue", manifest.SaveCatalogue(d, c), api.OK)
		files := map[string]string{"other": "xyz", "catalog": string(slowEncodeCatalogue(c))}
		wantImage(t, "SaveCatalogue", d.Image(), files)
		wantImage(t, "what is durable", d.Crash([]int{1, 1, 1}), files)
		undone(t, "LoadCatalogue", d, func() {
			got, e := manifest.LoadCatalogue(d)
			wantCatalogue(t, "LoadCatalogue", got, e, c)
		})
	}
	want(t, "operations", d.Ops(), 5*len(catalogues()))
}

// What is refused is refused ahead of the disk.
func TestSaveTellsTheFirstError(t *testing.T) {
	wrong := api.Manifest{}
	wrongOf := api.Catalogue{}
	want(t, "a nil disk", manifest.Save(nil, small()), api.ErrNil)
	want(t, "a nil disk and a wrong one", manifest.Save(nil, wrong), api.ErrNil)
	want(t, "a nil disk", manifest.SaveCatalogue(nil, pair()), api.ErrNil)
	want(t, "a nil disk and a wrong one", manifest.SaveCatalogue(nil, wrongOf), api.ErrNil)
	files := map[string]string{"t0.man": "old", "t3.man": "old", "catalog": "old", "t3.man.tmp": "left"}
	for _, d := range []*simfs.Disk{unpowered(t, files), holding(t, files)} {
		d.SetQuota(0)
		undone(t, "wrong ones", d, func() {
			want(t, "a wrong one", manifest.Save(d, wrong), api.ErrManifest)
			want(t, "a wrong one", manifest.SaveCatalogue(d, wrongOf), api.ErrCatalogue)
			for _, c := range edges() {
				if !c.right {
					want(t, c.what, manifest.Save(d, c.m), api.ErrManifest)
				}
			}
			for _, c := range catalogueEdges() {
				if !c.right {
					want(t, c.what, manifest.SaveCatalogue(d, c.c), api.ErrCatalogue)
				}
			}
		})
	}
	d := unpowered(t, files)
	undone(t, "no power", d, func() {
		want(t, "no power", manifest.Save(d, small()), api.ErrDead)
		want(t, "no power", manifest.SaveCatalogue(d, pair()), api.ErrDead)
	})
}

func TestSaveWithoutRoom(t *testing.T) {
	files := map[string]string{"t3.man": string(slowEncode(small())), "catalog": string(slowEncodeCatalogue(pair()))}
	d := holding(t, files)
	d.SetQuota(d.Used() + 17)
	want(t, "no room", manifest.Save(d, rich()), api.ErrSpace)
	want(t, "no room", manifest.SaveCatalogue(d, whole()), api.ErrSpace)
	wantImage(t, "no room", d.Image(), files)
	want(t, "no room for one byte", manifest.Save(d, small()), api.ErrSpace)
	d.SetQuota(d.Used() + 18)
	want(t, "just as much room", manifest.Save(d, small()), api.OK)
	wantImage(t, "just as much room", d.Crash(nil), files)
	d = crowd(t, "t3.man", "catalog")
	want(t, "no room for a name", manifest.Save(d, small()), api.ErrFiles)
	want(t, "no room for a name", manifest.SaveCatalogue(d, pair()), api.ErrFiles)
}

// wantRefused fails unless Load answers an error and nothing else, and changes nothing.
func wantRefused(t *testing.T, what string, d *simfs.Disk, id int, wanted api.Errno) {
	t.Helper()
	undone(t, what, d, func() {
		if m, e := manifest.Load(d, id); e != wanted || !sameManifest(m, api.Manifest{}) {
			t.Errorf("%s: Load of %d = %v, %d, want %d", what, id, m, e, wanted)
		}
	})
}

func wantRefusedOf(t *testing.T, what string, d *simfs.Disk, wanted api.Errno) {
	t.Helper()
	undone(t, what, d, func() {
		if c, e := manifest.LoadCatalogue(d); e != wanted || !sameCatalogue(c, api.Catalogue{}) {
			t.Errorf("%s: LoadCatalogue = %v, %d, want %d", what, c, e, wanted)
		}
	})
}

func TestLoadTellsTheFirstError(t *testing.T) {
	files := map[string]string{"t3.man": string(slowEncode(small())), "catalog": string(slowEncodeCatalogue(pair())), "t4.man": "damaged"}
	d, dead := holding(t, files), unpowered(t, files)
	for _, id := range []int{math.MinInt, -1, lastId + 1, 1<<32 + 3, math.MaxInt} {
		wantRefused(t, "a nil disk and no topic", nil, id, api.ErrNil)
		wantRefused(t, "no topic", d, id, api.ErrArg)
		wantRefused(t, "no power and no topic", dead, id, api.ErrArg)
	}
	for _, id := range []int{0, 3, 4, 5, lastId} {
		wantRefused(t, "a nil disk", nil, id, api.ErrNil)
		wantRefused(t, "no power", dead, id, api.ErrDead)
	}
	for _, id := range []int{0, 1, 5, 33, lastId} {
		wantRefused(t, "no file", d, id, api.ErrNoFile)
	}
	wantRefusedOf(t, "a nil disk", nil, api.ErrNil)
	wantRefusedOf(t, "no power", dead, api.ErrDead)
	wantRefusedOf(t, "no power and no file", unpowered(t, nil), api.ErrDead)
	wantRefusedOf(t, "no power and damaged", unpowered(t, map[string]string{"catalog": "damaged"}), api.ErrDead)
	wantRefusedOf(t, "no file", holding(t, nil), api.ErrNoFile)
}

// What stands under other names is not looked at.
func TestLoadOfOtherNames(t *testing.T) {
	m, c := string(slowEncode(small())), string(slowEncodeCatalogue(pair()))
	d := holding(t, map[string]string{"t3.man.tmp": m, "t03.man": m, "t33.man": m, "t3": m, "3.man": m, "t3.1.seg": m, "catalog.tmp": c, "catalogue": c, "t0.man": c})
	wantRefused(t, "no file of that name", d, 3, api.ErrNoFile)
	wantRefusedOf(t, "no file of that name", d, api.ErrNoFile)
	wantRefused(t, "a catalogue", d, 0, api.ErrDamaged)
	wantRefused(t, "another topic's", d, 33, api.ErrDamaged)
}

func TestLoadOfDamagedFiles(t *testing.T) {
	with := func(b string) *simfs.Disk { return holding(t, map[string]string{"t3.man": b, "catalog": b}) }
	m, c := string(slowEncode(small())), string(slowEncodeCatalogue(pair()))
	for what, b := range map[string]string{
		"no bytes":          "",
		"any bytes":         "anything",
		"one byte less":     m[:len(m)-1],
		"one byte more":     m + "\x00",
		"twice":             m + m,
		"the half":          m[:len(m)/2],
		"a changed byte":    m[:12] + "\x09" + m[13:],
		"a catalogue less":  c[:len(c)-1],
		"a catalogue more":  c + "\x00",
		"a changed one":     c[:12] + "\x09" + c[13:],
		"the other's mark":  "\xb7" + m[1:],
		"the first's mark":  "\xb3" + c[1:],
		"a manifest's body": m[9:],
		"zeros":             string(make([]byte, 100)),
		"very long":         m + string(make([]byte, 1<<19)),
	} {
		wantRefused(t, what, with(b), 3, api.ErrDamaged)
		wantRefusedOf(t, what, with(b), api.ErrDamaged)
	}
	wantRefused(t, "a catalogue", with(c), 3, api.ErrDamaged)
	wantRefusedOf(t, "a manifest", with(m), api.ErrDamaged)
	great := greatest()
	great.Id = 3
	wantRefused(t, "more than the most bytes that may be", with(string(slowEncode(great))+"\x00"), 3, api.ErrDamaged)
	great.Id = lastId
	wantRefused(t, "more than the most bytes that may be", holding(t, map[string]string{"t1073741823.man": string(slowEncode(great)) + "\x00"}), lastId, api.ErrDamaged)
	wantRefusedOf(t, "more than the most bytes that may be", with(string(slowEncodeCatalogue(whole()))+"\x00"), api.ErrDamaged)
	for _, id := range []int{0, 2, 4, lastId} {
		other := small()
		other.Id = id
		wantRefused(t, fmt.Sprint("the manifest of ", id), with(string(slowEncode(other))), 3, api.ErrDamaged)
	}
	for _, e := range edges() {
		if e.m.Id = 3; !slowCheck(e.m) {
			wantRefused(t, e.what, with(string(slowEncode(e.m))), 3, api.ErrDamaged)
		}
	}
	for _, e := range catalogueEdges() {
		if !e.right {
			wantRefusedOf(t, e.what, with(string(slowEncodeCatalogue(e.c))), api.ErrDamaged)
		}
	}
}

// A disk over its quota can be read.
func TestLoadAsksForNoRoom(t *testing.T) {
	d := holding(t, map[string]string{"t3.man": string(slowEncode(rich())), "catalog": string(slowEncodeCatalogue(pair()))})
	d.SetQuota(0)
	m, e := manifest.Load(d, 3)
	wantManifest(t, "Load", m, e, rich())
	c, e := manifest.LoadCatalogue(d)
	wantCatalogue(t, "LoadCatalogue", c, e, pair())
}
