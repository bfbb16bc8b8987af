package fsck_test

import (
	"testing"

	"chronicle/api"
	"chronicle/fsck"
	"chronicle/probe"
	"chronicle/simfs"
)

// R3: what is answered is new memory.
func TestAnswersAreNewMemory(t *testing.T) {
	d := holding(t, damaged())
	findings, saved := slowCheck(damaged()), slowSalvage(damaged())
	list, _ := fsck.Check(d)
	other, _ := fsck.Check(d)
	probe.Scribble(append(list, api.Finding{File: "more"}))
	probe.Scribble(list)
	wantList(t, "another list", other, findings)
	wantList(t, "the next list", checked(t, "next", d), findings)

	first, _ := fsck.Salvage(d)
	second, _ := fsck.Salvage(d)
	for i := range first {
		_ = append(first[i].Records, put(0, "more", "")) // into the room behind the end, if there is any
	}
	wantSaved(t, "appended to", first, saved)
	for i := range first {
		probe.Scribble(first[i].Records)
		if i+1 < len(first) {
			wantSaved(t, "the lists behind it", first[i+1:], saved[i+1:])
		}
	}
	probe.Scribble(first)
	wantSaved(t, "another answer", second, saved)
	wantSaved(t, "the next answer", salvaged(t, "next", d), saved)

	to := holding(t, nil)
	made, _ := fsck.Rebuild(d, to, usual())
	probe.Scribble(made)
	wantList(t, "behind a Rebuild", checked(t, "behind", d), findings)
}

// What was answered, and what was made anew, stays as it is, whatever becomes of the disk.
func TestAnswersStay(t *testing.T) {
	d, to := holding(t, damaged()), holding(t, nil)
	list, _ := fsck.Check(d)
	saved, _ := fsck.Salvage(d)
	fsck.Rebuild(d, to, usual())
	made := filesOf(to.Image())
	for _, name := range damaged().names() {
		d.Truncate(name, 0)
		d.Append(name, []byte("other bytes"))
	}
	wantList(t, "findings", list, slowCheck(damaged()))
	wantSaved(t, "records", saved, slowSalvage(damaged()))
	wantFiles(t, "made anew", to.Image(), made)
	for _, name := range made.names() {
		to.Remove(name)
	}
	want(t, "the files are there still", len(d.Image()), len(damaged()))
}

// R2: nothing is left behind in the package: other disks, and other calls between, change no answer.
func TestCallsAreApart(t *testing.T) {
	a, b := holding(t, damaged()), holding(t, whole())
	for range 3 {
		wantList(t, "damaged", checked(t, "damaged", a), slowCheck(damaged()))
		wantList(t, "whole", checked(t, "whole", b), nil)
		wantSaved(t, "whole", salvaged(t, "whole", b), savedOfWhole())
		wantSaved(t, "damaged", salvaged(t, "damaged", a), slowSalvage(damaged()))
		made, _, _ := slowRebuild(damaged(), usual())
		wantFiles(t, "made anew", rebuilt(t, "damaged", damaged(), usual()).Image(), made)
	}
}

// 21.1, 21.2, 21.3: what is seen counts, be it durable or not, and what waits for a sync waits on.
func TestWhatIsNotSynced(t *testing.T) {
	for seed := range uint64(30) {
		l := newLife(t, seed+300)
		for range 80 {
			l.act()
		}
		f := filesOf(l.d.Image())
		wantList(t, "Check", checked(t, "in use", l.d), slowCheck(f))
		wantSaved(t, "Salvage", salvaged(t, "in use", l.d), slowSalvage(f))
		to := holding(t, nil)
		made, _, e := slowRebuild(f, usual())
		looking(t, "Rebuild", l.d, func() {
			_, errno := fsck.Rebuild(l.d, to, usual())
			want(t, "Rebuild", errno, e)
		})
		wantFiles(t, "made anew", to.Image(), made)
		for range 20 {
			l.act() // the store goes on
		}
	}
	d, _ := simfs.New(1000)
	d.Create("catalog")
	d.Append("catalog", []byte(catalogue(1)))
	wantList(t, "nothing is durable", checked(t, "not durable", d), nil)
	d.Sync("catalog")
	d.SyncDir()
	d.Remove("catalog")
	wantList(t, "removed", checked(t, "removed", d), []api.Finding{found(api.FkCatalogue, "catalog")})
}
