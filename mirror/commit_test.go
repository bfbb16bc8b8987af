package mirror_test

import (
	"fmt"
	"slices"
	"testing"

	"chronicle/api"
	"chronicle/mirror"
	"chronicle/probe"
	"chronicle/simfs"
	"chronicle/topic"
)

// notesOf is the records of the notes that are seen on a disk.
func notesOf(t *testing.T, d *simfs.Disk) []api.Record {
	t.Helper()
	notes, e := topic.Open(loaded(t, d.Image()), notesId, usual, 0, 0)
	want(t, "Open of the notes", e, api.OK)
	recs, e := notes.Records()
	want(t, "the notes", e, api.OK)
	return recs
}

// 22.5
func TestCommitOfNoMirror(t *testing.T) {
	var none *mirror.Mirror
	want(t, "nil", none.Commit(), api.ErrNil)
	want(t, "zero", (&mirror.Mirror{}).Commit(), api.ErrNil)
}

// 22.5: what is new is noted, and nothing else; its time is the copy's clock.
func TestCommitNotesWhatIsNew(t *testing.T) {
	k := fresh(t)
	notes := []api.Record{value(0, "source", "t")}
	step := func(what string, ops int, more ...string) {
		t.Helper()
		before := k.d.Ops()
		k.commits(what)
		want(t, what+": operations", k.d.Ops()-before, ops)
		for _, text := range more {
			r := value(int64(len(notes)), "at", text)
			r.Time = k.m.Topic().Tick(0)
			notes = append(notes, r)
		}
		wantList(t, what, notesOf(t, k.d), notes)
		durable, _ := simfs.Load(k.d.Crash(nil), wide)
		wantList(t, what+", durable", notesOf(t, durable), notes)
		untouched(t, what+", and nothing new", k.d, func() { k.commits(what) })
	}
	step("nothing", 0)
	k.tails("asked", 1, 0)
	step("asked", 0)
	k.hears("a number", api.OK, subscribed(1, 0, 4))
	step("a number alone", 2, placed(4, 0))
	k.now = 30
	k.hears("a position", api.OK, delivered(1, 300))
	step("a position alone", 2, placed(4, 300))
	k.hears("the same position", api.OK, delivered(1, 300))
	step("the same position", 0)
	k.hears("records", api.OK, delivered(1, 302, value(300, "a", "1"), value(301, "b", "2")))
	step("records", 3, placed(4, 302))
	k.m.Topic().Tick(90)
	k.hears("a later clock", api.OK, delivered(1, 303))
	step("a later clock", 2, placed(4, 303))
	want(t, "a later clock", notes[len(notes)-1].Time, 90)
	k.m.Lost()
	step("lost", 0)
	k.tails("lost", 1, 303)
	k.hears("lost", api.OK, subscribed(1, 303, 4), delivered(1, 304, tomb(303, "a")))
	k.m.Lost()
	step("lost ahead of its commit", 3, placed(4, 304))
	k.tails("broken", 1, 304)
	k.hears("broken", api.ErrSource, subscribed(1, 304, 4), delivered(1, 306, tomb(305, "b")), final(1, 307))
	step("broken", 3, placed(4, 306))
	k.m.Lost()
	k.tails("idle", 1, 306)
	k.hears("idle", api.OK, subscribed(1, 306, 4), delivered(1, 400), refused(1, api.OpDeliver, api.CodeNoTopic))
	step("idle", 2, placed(4, 400))
	k = k.again()
	step("opened again", 0)
	k.wantPairs("opened again", "")
}

// Places that change and change back are noted anew; the one that was noted last counts.
func TestCommitNotesAgain(t *testing.T) {
	k := copyOf(t, usual, value(0, "a", "1"))
	for i, c := range []struct{ moment, number int64 }{{3, 5}, {6, 4}, {6, 5}, {6, 4}, {0, 4}, {6, 4}} {
		k.m.Lost()
		id := uint32(1)
		if k.m.State().Position > 0 {
			k.tails("again", 1, k.m.State().Position)
			k.hears("again", api.OK, refused(1, api.OpSubscribe, api.CodeBeyond))
			id = 2
		}
		k.snaps("again", id)
		k.hears("again", api.OK, snapped(id, c.moment, c.number), final(id, c.moment, value(0, "a", fmt.Sprint(i))))
		k.commits("again")
		k.wantNotes("again", c.number, c.moment)
		want(t, "notes", len(notesOf(t, k.d)), 3+i)
	}
}

// 22.5: what was noted of a copy that had to be created anew is not what is committed now.
func TestCommitBehindALostCopy(t *testing.T) {
	d := loaded(t, nil)
	noted(t, d, "source", "t", "at", placed(4, 9))
	k := over(t, d, usual)
	k.commits("at once")
	k.wantNotes("at once", 0, 0)
	k = k.again()
	k.tails("opened again", 1, 0)
}

// 22.5: while a snapshot is taken, or is broken off until Lost, nothing is noted, but the copy is committed.
func TestCommitWhileASnapshotIsTaken(t *testing.T) {
	same := func(k *desk, what string) {
		t.Helper()
		notes := notesOf(t, k.d)
		k.commits(what)
		want(t, what+": Pending", k.m.State().Pending, 0)
		wantList(t, what+": the notes", notesOf(t, k.d), notes)
	}
	// Ahead of the snapshot there is something that is not noted yet.
	begin := func() *desk {
		k := copyOf(t, usual, value(0, "a", "1"), value(0, "b", "2"))
		k.hears("ahead", api.OK, delivered(1, 8, value(7, "c", "3")), refused(1, api.OpDeliver, api.CodeHorizonPassed))
		same(k, "passed")
		k.snaps("passed", 2)
		same(k, "asked")
		k.hears("answered", api.OK, snapped(2, 99, 9))
		same(k, "answered")
		k.hears("a part", api.OK, delivered(2, 99, value(0, "b", "7")))
		same(k, "a part")
		return k
	}
	k := begin()
	k.hears("all", api.OK, final(2, 99, value(0, "d", "8")))
	k.holds("all", "b=7 d=8")
	k.wantNotes("all", 9, 99)
	for what, end := range map[string]func(k *desk){
		"idle":         func(k *desk) { k.hears("", api.OK, refused(2, api.OpDeliver, api.CodeNoTopic)) },
		"broken":       func(k *desk) { k.hears("", api.ErrSource, delivered(3, 99)) },
		"passed again": func(k *desk) { k.hears("", api.OK, refused(2, api.OpDeliver, api.CodeHorizonPassed)) },
		"refused":      func(k *desk) { k.now = -1; k.hears("", api.ErrArg, delivered(2, 99, value(0, "c", "7"))) },
	} {
		k := begin()
		end(k)
		same(k, what)
		k.wantNotes(what, 4, 7)
		k.m.Lost()
		k.commits(what)
		k.wantNotes(what+", lost", 4, 8)
		k.wantPairs(what, "a=1 b=7 c=3")
		k.tails(what, 1, 8)
	}
}

// 22.5: what has been told of a snapshot alone is never noted, and so not what is in the copy of it.
func TestSnapshotThatIsCutByACrash(t *testing.T) {
	k := copyOf(t, usual, value(0, "a", "1"))
	k.m.Lost()
	k.tails("again", 1, 6)
	k.hears("again", api.OK, subscribed(1, 6, 9))
	k.snaps("again", 2)
	k.hears("again", api.OK, snapped(2, 99, 9), delivered(2, 99, value(0, "b", "7")))
	k.commits("again")
	k = k.again()
	k.wantState("behind a crash", api.MirIdle, 6, 2, 0)
	k.tails("behind a crash", 1, 6)
	k.hears("behind a crash", api.OK, subscribed(1, 6, 9))
	k.snaps("behind a crash: the number is the old one", 2)
}

// filled is a mirror whose notes have all segments that may be, and no room in the last one for one more.
func filled(t *testing.T) *desk {
	t.Helper()
	k := copyOf(t, 256, value(0, "a", "1"))
	for at := int64(1 << 30); !isFilled(t, k.d, at); at++ {
		k.hears("on", api.OK, delivered(1, at))
		k.commits("on")
	}
	return k
}

// isFilled tells whether the notes refuse a place.
func isFilled(t *testing.T, d *simfs.Disk, at int64) bool {
	t.Helper()
	if len(notesFiles(d)) < 64 {
		return false
	}
	notes, e := topic.Open(loaded(t, d.Image()), notesId, 256, 0, 0)
	want(t, "Open of the notes", e, api.OK)
	_, _, e = notes.Append(0, api.Write{Key: "at", Value: placed(4, at)})
	return e == api.ErrSegs
}

// notesFiles is the notes' segments, as they were made.
func notesFiles(d *simfs.Disk) []string {
	var list []string
	names, _ := d.List()
	for seg := range 2000 {
		if name := fmt.Sprintf("t4.%d.seg", seg); slices.Contains(names, name) {
			list = append(list, name)
		}
	}
	return list
}

// 22.5: where the notes' segments are at their end they are merged, and the note is appended once more.
func TestCommitMergesTheNotes(t *testing.T) {
	k := filled(t)
	at := k.m.State().Position
	k.now = 50
	k.hears("full", api.OK, delivered(1, at+5, value(at+1, "b", "2")))
	k.commits("full")
	k.wantNotes("full", 4, at+5)
	notes := notesOf(t, k.d)
	want(t, "notes that are left are few", len(notes) < 20, true)
	want(t, "the time", notes[len(notes)-1].Time, 50)
	want(t, "segments that are left", len(notesFiles(k.d)), 3)
	k = k.again()
	k.wantState("opened again", api.MirIdle, at+5, 2, 0)
	for i := range int64(30) {
		k.m.Lost()
		k.tails("on", 1, at+5+i)
		k.hears("on", api.OK, subscribed(1, at+5+i, 4), delivered(1, at+6+i))
		k.commits("on")
		k.wantNotes("on", 4, at+6+i)
	}
}

// 22.5: refusals, of which the first one is the answer; what was not noted is noted by the next Commit.
func TestCommitIsRefused(t *testing.T) {
	k := copyOf(t, usual, value(0, "a", "1"))
	k.hears("no room", api.OK, delivered(1, 300))
	k.d.SetQuota(k.d.Used() + 20)
	k.m.Topic().Tick(7)
	for range 2 {
		untouched(t, "no room", k.d, func() { want(t, "no room", k.m.Commit(), api.ErrSpace) })
	}
	k.d.SetQuota(wide)
	k.commits("room")
	k.wantNotes("room", 4, 300)

	k.hears("no file of the copy", api.OK, delivered(1, 400, value(333, "b", "1")))
	want(t, "Rename", k.d.Rename("t3.1.seg", "away"), api.OK)
	want(t, "no file of the copy", k.m.Commit(), api.ErrNoFile)
	want(t, "Rename", k.d.Rename("away", "t3.1.seg"), api.OK)
	k.wantNotes("no file of the copy", 4, 300)
	k.wantState("no file of the copy", api.MirTail, 400, 1, 1)
	k.commits("a file of the copy")
	k.wantNotes("a file of the copy", 4, 400)

	k.hears("no file of the notes", api.OK, delivered(1, 500, value(444, "b", "2")))
	want(t, "Rename", k.d.Rename("t4.1.seg", "away"), api.OK)
	want(t, "no file of the notes", k.m.Commit(), api.ErrNoFile)
	want(t, "Rename", k.d.Rename("away", "t4.1.seg"), api.OK)
	k.wantState("no file of the notes", api.MirTail, 500, 2, 0)
	k.commits("a file of the notes")
	k.wantNotes("a file of the notes", 4, 500)

	k.hears("gone", api.OK, delivered(1, 600))
	want(t, "Drop", k.m.Topic().Drop(), api.OK)
	want(t, "gone", k.m.Commit(), api.ErrGone)
	k.wantNotes("gone", 4, 500)
}

// 22.5: a merge of the notes is refused: that is the answer; the next Commit tries again.
func TestCommitWhoseMergeIsRefused(t *testing.T) {
	k := filled(t)
	at := k.m.State().Position
	k.hears("full", api.OK, delivered(1, at+5))
	k.d.SetQuota(k.d.Used() + api.Reserve + 30) // a note has room, what a merge makes has not
	before := notesFiles(k.d)
	want(t, "no room", k.m.Commit(), api.ErrSpace)
	wantList(t, "as it was", notesFiles(k.d), before)
	k.d.SetQuota(wide)
	k.commits("room")
	k.wantNotes("room", 4, at+5)

	k = filled(t)
	at = k.m.State().Position
	k.hears("full", api.OK, delivered(1, at+5))
	name := notesFiles(k.d)[10]
	want(t, "Rename", k.d.Rename(name, "away"), api.OK)
	want(t, "a file is not there", k.m.Commit(), api.ErrNoFile)
	want(t, "Rename", k.d.Rename("away", name), api.OK)
	k.commits("it is there")
	k.wantNotes("it is there", 4, at+5)
}

// 22.5: notes of which all live can't be merged: ErrLive is the answer, and nothing is merged.
func TestCommitWhoseNotesAllLive(t *testing.T) {
	d := loaded(t, nil)
	p, e := topic.Create(d, notesId, 256, 0, 0)
	want(t, "Create", e, api.OK)
	list := append([]api.Record{value(0, "source", "t")}, full(63, false)...)
	for _, r := range list {
		_, _, e := p.Append(0, api.Write{Key: r.Key, Value: r.Value})
		want(t, "Append", e, api.OK)
		want(t, "Roll", p.Roll() == api.OK, r.Key != "k62")
	}
	want(t, "segments", p.State().Segs, 64)
	k := over(t, loaded(t, d.Image()), 256)
	k.tails("all live", 1, 0)
	k.hears("all live", api.OK, subscribed(1, 0, 4), delivered(1, 1, value(0, "a", "1")))
	for range 2 {
		want(t, "all live", k.m.Commit(), api.ErrLive)
		k.wantPairs("the copy is committed", "a=1")
		k.wantNoPlace("all live")
		want(t, "segments", len(notesFiles(k.d)), 64)
	}
}

// 22.5, 22.10: the power goes at each operation of a Commit: the place is the old one, or the new one, and the copy has what that tells.
func TestCommitWithLittlePower(t *testing.T) {
	for what, begin := range map[string]func() *desk{
		"records": func() *desk {
			k := copyOf(t, usual, value(0, "a", "1"), value(0, "b", "2"))
			k.hears("ahead", api.OK, delivered(1, 20, value(7, "a", "7"), tomb(9, "b"), value(12, "c", "9")))
			return k
		},
		"a position": func() *desk {
			k := copyOf(t, usual, value(0, "a", "7"), value(0, "c", "9"))
			k.hears("ahead", api.OK, delivered(1, 20))
			return k
		},
		"a snapshot": func() *desk {
			k := copyOf(t, usual, value(0, "a", "1"), value(0, "b", "2"))
			k.hears("ahead", api.OK, refused(1, api.OpDeliver, api.CodeHorizonPassed))
			k.snaps("ahead", 2)
			k.hears("ahead", api.OK, snapped(2, 20, 4), final(2, 20, value(1, "a", "7"), value(1, "c", "9")))
			return k
		},
	} {
		whole := begin()
		ops := whole.d.Ops()
		whole.commits(what)
		ops = whole.d.Ops() - ops
		old := begin().m.State().Position
		want(t, what+": operations", ops > 1, true)
		seen := map[int64]int{}
		for fuse := range ops + 1 {
			k := begin()
			k.d.Fuse(fuse)
			wanted := api.ErrDead
			if fuse == ops {
				wanted = api.OK
			}
			want(t, what+": Commit", k.m.Commit(), wanted)
			for _, image := range probe.Leavings(k.d) {
				opened := over(t, loaded(t, image), usual)
				at := opened.m.State().Position
				seen[at]++
				switch {
				case at == 20:
					opened.wantPairs(what, "a=7 c=9")
				case wanted == api.OK:
					t.Errorf("%s: behind an OK the place is %d", what, at)
				case at != 7 && at != old:
					t.Errorf("%s: the place is %d", what, at)
				}
			}
		}
		want(t, what+": both were seen", len(seen), 2)
	}
}

// 22.5: the same, where the notes are merged on the way.
func TestCommitThatMergesWithLittlePower(t *testing.T) {
	k := filled(t)
	at := k.m.State().Position
	k.hears("full", api.OK, delivered(1, at+5, value(at+1, "b", "2")))
	k.m.Topic().Commit()
	image := k.d.Image()
	begin := func() *desk {
		k := over(t, loaded(t, image), 256)
		k.tails("ahead", 1, at)
		k.hears("ahead", api.OK, subscribed(1, at, 4), delivered(1, at+5, value(at+1, "b", "2")))
		return k
	}
	whole := begin()
	ops := whole.d.Ops()
	whole.commits("whole")
	ops = whole.d.Ops() - ops
	want(t, "operations", ops > 60, true)
	for fuse := 0; fuse <= ops; fuse += 1 + fuse%2 {
		k := begin()
		k.d.Fuse(fuse)
		e := k.m.Commit()
		want(t, "Commit", e == api.OK, !k.d.Dead())
		want(t, "Commit", e == api.OK || e == api.ErrDead, true)
		for seed := range uint64(6) {
			var picks []int
			for _, x := range probe.Noise(seed, 20) {
				picks = append(picks, int(x>>20%1000))
			}
			opened := over(t, loaded(t, k.d.Crash(picks)), 256)
			got := opened.m.State().Position
			want(t, fmt.Sprint("with power for ", fuse, ": the place"), got == at+5 || got == at && e != api.OK, true)
			opened.wantPairs("a merge", "a=1 b=2")
		}
	}
}
