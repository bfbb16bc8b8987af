package manifest_test

import (
	"fmt"
	"maps"
	"testing"

	"chronicle/api"
	"chronicle/manifest"
	"chronicle/simfs"
)

// leavings gives what a crash may leave of a disk on which at most one file waits for a sync, the at-th of those by name that are left: for each number of the directory's changes, of that file's, and of the last one's bytes.
func leavings(d *simfs.Disk) []map[string]string {
	var all []map[string]string
	known := map[string]int{}
	for named := range 6 {
		files := len(d.Crash([]int{named}))
		for at := range files {
			for changes := range 4 {
				for torn := range 30 {
					picks := make([]int, 1+at, 3+at)
					picks[0] = named
					image := d.Crash(append(picks, changes, torn))
					if key := fmt.Sprintf("%q", image); known[key] == 0 {
						known[key]++
						all = append(all, filesOf(image))
					}
				}
			}
		}
		if files == 0 {
			all = append(all, map[string]string{})
		}
	}
	return all
}

// beginnings is disks on which the old bytes of a file stand, or none, all of it durable.
func beginnings() []map[string]string {
	list := []map[string]string{}
	for _, other := range []map[string]string{{}, {"0": "zero"}, {"a": "A", "t3.man": "M", "z": "Z"}} {
		for _, old := range []map[string]string{{}, {"m": "old bytes"}} {
			for _, left := range []map[string]string{{}, {"m.tmp": ""}, {"m.tmp": "left"}} {
				files := maps.Clone(other)
				maps.Copy(files, old)
				maps.Copy(files, left)
				list = append(list, files)
			}
		}
	}
	return list
}

// wantWhole fails unless a crash has left the old bytes or the new ones, the new ones alone, if they were acknowledged, and all other files as they were; it tells what was left.
func wantWhole(t *testing.T, what string, left, files map[string]string, b string, answer api.Errno) string {
	t.Helper()
	got, there := left["m"]
	old, was := files["m"]
	isOld, isNew := there == was && got == old, there && got == b
	if !isOld && !isNew || answer == api.OK && !isNew || answer == api.ErrSpace && !isOld {
		t.Errorf("%s: the answer was %d, of %q is left %q", what, answer, files, left)
	}
	rest, others := maps.Clone(left), maps.Clone(files)
	for _, name := range []string{"m", "m.tmp"} {
		delete(rest, name)
		delete(others, name)
	}
	if !maps.Equal(rest, others) {
		t.Errorf("%s: of other files %q is left of %q", what, rest, others)
	}
	_, beside := left["m.tmp"]
	return fmt.Sprintf("there %t, new %t, beside %t", there, isNew && !isOld, beside)
}

// 7.7
func TestWholeOrNotAtAll(t *testing.T) {
	count := map[string]int{}
	for _, b := range []string{"", "n", "new bytes", "newer bytes than these"} {
		for _, files := range beginnings() {
			for fuse := range 8 {
				d := holding(t, files)
				d.Fuse(fuse)
				e := manifest.Replace(d, "m", []byte(b))
				_, had := files["m.tmp"]
				if enough := 5; !had && (e == api.OK) != (fuse >= enough) || had && (e == api.OK) != (fuse > enough) {
					t.Errorf("power for %d: %d", fuse, e)
				}
				for _, left := range leavings(d) {
					kind := wantWhole(t, fmt.Sprintf("%q, power for %d", b, fuse), left, files, b, e)
					count[kind]++
					wantAnew(t, left)
				}
			}
		}
	}
	for _, there := range []bool{true, false} {
		for _, beside := range []bool{true, false} {
			if kind := fmt.Sprintf("there %t, new false, beside %t", there, beside); count[kind] < 20 {
				t.Errorf("%s: tried %d times", kind, count[kind])
			}
		}
	}
	if kind := "there true, new true, beside false"; count[kind] < 20 || len(count) != 5 {
		t.Errorf("%v", count)
	}
}

// wantAnew fails unless over what a crash has left a file can be replaced.
func wantAnew(t *testing.T, left map[string]string) {
	t.Helper()
	d := holding(t, left)
	want(t, "Replace over it", manifest.Replace(d, "m", []byte("anew")), api.OK)
	files := merged(left, "m", "anew")
	delete(files, "m.tmp")
	wantImage(t, "replaced over it", d.Crash([]int{5, 5, 5}), files)
}

// A Replace that is refused room leaves the old bytes, and at most a name beside.
func TestRefusedLeavesTheOld(t *testing.T) {
	b := "newer bytes than these"
	names := 0
	for _, files := range beginnings() {
		for fuse := -1; fuse < 4; fuse++ {
			d := holding(t, files)
			d.SetQuota(d.Used() + 5)
			d.Fuse(fuse)
			e := manifest.Replace(d, "m", []byte(b))
			if e != api.ErrSpace && e != api.ErrDead || fuse < 0 && e != api.ErrSpace {
				t.Errorf("power for %d: %d", fuse, e)
			}
			for _, left := range leavings(d) {
				wantWhole(t, fmt.Sprint("refused, power for ", fuse), left, files, b, api.ErrSpace)
				if beside, ok := left["m.tmp"]; ok {
					names++
					if was, had := files["m.tmp"]; beside != "" && !(had && beside == was) {
						t.Errorf("refused, power for %d: %q", fuse, left)
					}
				}
			}
		}
	}
	if names < 20 {
		t.Errorf("%d names beside", names)
	}
}

// versions is manifests of topic 3 as they follow one another.
func versions() []api.Manifest {
	list := []api.Manifest{small(), rich(), small(), greatest(), rich()}
	for i := range list {
		list[i].Id, list[i].Clock = 3, int64(i)
	}
	return list
}

// Load over what a crash leaves of one Save behind the other: the last one that was acknowledged, or the one that was under way.
func TestSavesAndCrashes(t *testing.T) {
	ahead, behind := 0, 0
	for fuse := range 5*len(versions()) + 1 {
		d := holding(t, map[string]string{"catalog": "C"})
		d.Fuse(fuse)
		acknowledged := 0
		for _, m := range versions() {
			if manifest.Save(d, m) != api.OK {
				break
			}
			acknowledged++
		}
		want(t, fmt.Sprint("power for ", fuse), acknowledged, fuse/5)
		for _, left := range leavings(d) {
			again := holding(t, left)
			want(t, "the other file", left["catalog"], "C")
			m, e := manifest.Load(again, 3)
			last := int64(acknowledged) - 1
			switch {
			case e == api.ErrNoFile && acknowledged == 0:
				behind++
			case e == api.OK && m.Clock == last && sameManifest(m, versions()[last]):
				behind++
			case e == api.OK && m.Clock == last+1 && sameManifest(m, versions()[last+1]):
				ahead++
			default:
				t.Errorf("power for %d: Load over %q = %v, %d", fuse, left, m, e)
			}
			want(t, "Save over it", manifest.Save(again, rich()), api.OK)
			m, e = manifest.Load(again, 3)
			wantManifest(t, "saved over it", m, e, rich())
			wantList(t, "nothing left over", manifest.Orphans(namesOf(again), rich()), nil)
		}
	}
	if ahead != len(versions()) || behind < 50 {
		t.Errorf("%d, %d", ahead, behind)
	}
}

func namesOf(d *simfs.Disk) []string {
	names, _ := d.List()
	return names
}

// The same of catalogues.
func TestSavesAndCrashesOfCatalogues(t *testing.T) {
	for fuse := range 11 {
		d := holding(t, map[string]string{"t3.man": "M"})
		d.Fuse(fuse)
		list := []api.Catalogue{pair(), whole()}
		acknowledged := 0
		for _, c := range list {
			if manifest.SaveCatalogue(d, c) != api.OK {
				break
			}
			acknowledged++
		}
		want(t, fmt.Sprint("power for ", fuse), acknowledged, fuse/5)
		for _, left := range leavings(d) {
			again := holding(t, left)
			c, e := manifest.LoadCatalogue(again)
			before := acknowledged == 0 && e == api.ErrNoFile || acknowledged > 0 && e == api.OK && sameCatalogue(c, list[acknowledged-1])
			after := acknowledged < 2 && e == api.OK && sameCatalogue(c, list[acknowledged])
			if !before && !after || left["t3.man"] != "M" {
				t.Errorf("power for %d: LoadCatalogue over %q = %v, %d", fuse, left, c, e)
			}
			if _, beside := left["catalog.tmp"]; beside {
				wantList(t, "what is left over", manifest.Strangers(namesOf(again), catalogueOfIds(3)), []string{"catalog.tmp"})
			}
			want(t, "SaveCatalogue over it", manifest.SaveCatalogue(again, pair()), api.OK)
			c, e = manifest.LoadCatalogue(again)
			wantCatalogue(t, "saved over it", c, e, pair())
		}
	}
}
