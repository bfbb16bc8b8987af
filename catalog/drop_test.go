package catalog_test

import (
	"fmt"
	"slices"
	"strings"
	"testing"

	"chronicle/api"
	"chronicle/simfs"
	"chronicle/topic"
)

// 14.4
func TestDrop(t *testing.T) {
	for i, gone := range three() {
		f := lived(t).with(others())
		d, c := over(t, f)
		p := of(t, c, gone.Name)
		ops := d.Ops()
		want(t, "Drop", c.Drop(gone.Name), api.OK)
		rest := slices.Delete(three(), i, i+1)
		wantTopics(t, "dropped", c, rest...)
		wantList(t, "List", c.List(), slices.Delete(livedInfos(), i, i+1))
		wantDurable(t, "dropped", d, f.without(f.of(gone.Id).names()...).with(catalogue(7, rest...)))
		want(t, "operations", d.Ops()-ops, 5+len(f.of(gone.Id))+1+1)
		wantGone(t, gone.Name, p)
		q, e := c.Topic(gone.Name)
		want(t, "Topic", fmt.Sprint(q == nil, e), "true 141")
		q, e = c.ById(gone.Id)
		want(t, "ById", fmt.Sprint(q == nil, e), "true 141")
		undone(t, "Drop twice", d, c, func() { want(t, "Drop twice", c.Drop(gone.Name), api.ErrNoTopic) })
		// The others go on, and the name is free.
		for _, entry := range rest {
			write(t, of(t, c, entry.Name), "more", "x")
			want(t, "Commit", of(t, c, entry.Name).Commit(), api.OK)
		}
		wantTopics(t, "opened", opened(t, loaded(t, d.Crash(nil))), rest...)
		wantCreate(t, "anew", c, gone.Name, 0, 0, 7, api.OK)
		wantGone(t, gone.Name, p)
		want(t, "records of the new one", of(t, c, gone.Name).State().Next, 0)
	}
}

// wantGone fails unless a topic is dropped.
func wantGone(t *testing.T, what string, p *topic.Topic) {
	t.Helper()
	want(t, what+": Commit", p.Commit(), api.ErrGone)
	_, _, e := p.Append(0, api.Write{Key: "k"})
	want(t, what+": Append", e, api.ErrGone)
	_, e = p.Records()
	want(t, what+": Records", e, api.ErrGone)
}

func TestDropOfNoTopic(t *testing.T) {
	names := append(wrongNames(), "c", "b-", "b-22", "n00", "t4", "4", strings.Repeat("a", 24))
	for _, dead := range []bool{false, true} {
		d, c := over(t, lived(t).with(others()))
		if dead {
			unpower(t, d)
		}
		undone(t, "no topic", d, c, func() {
			for _, name := range names {
				want(t, fmt.Sprintf("Drop(%.30q)", name), c.Drop(name), api.ErrNoTopic)
			}
		})
	}
	d, c := formatted(t)
	undone(t, "no topics", d, c, func() { want(t, "Drop", c.Drop("a"), api.ErrNoTopic) })
}

// 14.4: with pending records, and in the midst of whatever its holder does.
func TestDropOfAHeldTopic(t *testing.T) {
	w := twinsOver(t, lived(t), usual())
	w.topics(t, "a", func(p *topic.Topic) {
		write(t, p, "pending", "x")
		want(t, "Hold", p.Hold(), api.OK)
	})
	w.topics(t, "b", func(p *topic.Topic) { write(t, p, "pending", "x") })
	p := of(t, w.c, "a")
	want(t, "Drop", w.drop(t, "held", "a"), api.OK)
	wantGone(t, "held", p)
	w.topics(t, "b", func(p *topic.Topic) {
		want(t, "Pending", p.State().Pending, 1)
		want(t, "Commit", p.Commit(), api.OK)
	})
	w.same(t, "the other one is committed")
}

// 14.4: what topic.Drop has not removed goes too. Whoever holds a topic may have dropped it, and files of its number may have come since.
func TestDropOfADroppedTopic(t *testing.T) {
	mess := []string{"t4.1.hint", "t4.1.seg", "t4.9.hint.tmp", "t4.9.seg", "t4.man", "t4.man.tmp"}
	for n := range len(mess) + 1 {
		for fuse := -1; fuse < 5+n+2; fuse++ {
			w := twinsOver(t, lived(t).with(others()), usual())
			w.topics(t, "a", func(p *topic.Topic) { want(t, "topic.Drop", p.Drop(), api.OK) })
			wantTopics(t, "dropped by its holder", w.c, three()...)
			w.disks(func(d *simfs.Disk) {
				for _, name := range mess[:n] {
					want(t, "Create", d.Create(name), api.OK)
				}
				want(t, "SyncDir", d.SyncDir(), api.OK)
				d.Fuse(fuse)
			})
			e := w.drop(t, fmt.Sprintf("%d files, power for %d", n, fuse), "a")
			want(t, "Drop", e == api.OK, fuse < 0 || fuse == 5+n+1)
			want(t, "only ErrDead is told", e == api.OK || e == api.ErrDead, true)
			if e == api.OK {
				rest := lived(t).with(others())
				wantDurable(t, "dropped", w.d, rest.without(rest.of(4).names()...).with(catalogue(7, three()[1:]...)))
			}
		}
	}
}

// 14.4: a disk that refuses the catalogue. Then nothing is changed.
func TestDropWithoutRoom(t *testing.T) {
	for i, gone := range three() {
		need := len(catalogue(7, slices.Delete(three(), i, i+1)...)["catalog"])
		for room := -3; room <= need; room++ {
			w := twinsOver(t, lived(t), usual())
			p := of(t, w.c, gone.Name)
			list := w.c.List()
			w.disks(func(d *simfs.Disk) { d.SetQuota(d.Used() + room) })
			e := w.drop(t, fmt.Sprint("room for ", room), gone.Name)
			if room == need {
				want(t, "as much room as it needs", e, api.OK)
				continue
			}
			want(t, "Drop", e, api.ErrSpace)
			wantFiles(t, "refused", w.d.Image(), lived(t))
			wantTopics(t, "refused", w.c, three()...)
			wantList(t, "List", w.c.List(), list)
			want(t, "the topic", of(t, w.c, gone.Name), p)
			w.disks(func(d *simfs.Disk) { d.SetQuota(1 << 24) })
			w.topics(t, gone.Name, func(p *topic.Topic) {
				write(t, p, "still", "there")
				want(t, "Commit", p.Commit(), api.OK)
			})
			want(t, "Drop with room", w.drop(t, "with room", gone.Name), api.OK)
		}
	}
}

// 14.4: the power goes. Ahead of the moment the catalog is as it was, behind it the topic is gone.
func TestDropWithoutPower(t *testing.T) {
	for i, gone := range three() {
		files := len(lived(t).of(gone.Id))
		for fuse := range 5 + files + 3 {
			w := twinsOver(t, lived(t), usual())
			p := of(t, w.c, gone.Name)
			w.disks(func(d *simfs.Disk) { d.Fuse(fuse) })
			e := w.drop(t, fmt.Sprint("power for ", fuse), gone.Name)
			switch {
			case fuse >= 5+files+2:
				want(t, "enough power", e, api.OK)
			case fuse >= 5:
				want(t, "Drop", e, api.ErrDead)
				wantTopics(t, "behind the moment", w.c, slices.Delete(three(), i, i+1)...)
				wantGone(t, "behind the moment", p)
			default:
				want(t, "Drop", e, api.ErrDead)
				wantTopics(t, "ahead of the moment", w.c, three()...)
				want(t, "the topic", p.State().Segs > 0, true)
			}
		}
	}
	_, c := over(t, lived(t))
	for _, name := range []string{"b-2", "a", "b"} {
		want(t, "Drop", c.Drop(name), api.OK)
	}
	wantTopics(t, "all dropped", c)
}
