package catalog_test

import (
	"fmt"
	"slices"
	"testing"

	"chronicle/api"
	"chronicle/catalog"
	"chronicle/manifest"
	"chronicle/probe"
	"chronicle/simfs"
)

// plot is a Create or a Drop in which the power may go.
type plot struct {
	files  files
	ahead  func(t *testing.T, d *simfs.Disk, c *catalog.Catalog) // what is done ahead of it
	call   func(*catalog.Catalog) api.Errno
	before []api.TopicEntry
	behind []api.TopicEntry
}

func nothing(*testing.T, *simfs.Disk, *catalog.Catalog) {}

// pending appends records to a and to b that are not committed.
func pending(t *testing.T, _ *simfs.Disk, c *catalog.Catalog) {
	write(t, of(t, c, "a"), "pending", "1")
	write(t, of(t, c, "b"), "pending", "22")
	write(t, of(t, c, "b"), "k", "333")
}

// tight leaves so much room on the disk.
func tight(room int) func(*testing.T, *simfs.Disk, *catalog.Catalog) {
	return func(_ *testing.T, d *simfs.Disk, _ *catalog.Catalog) { d.SetQuota(d.Used() + room) }
}

// litter lays files of the next number on the disk, some of them durable.
func litter(t *testing.T, d *simfs.Disk, _ *catalog.Catalog) {
	for i, name := range []string{"t7.1.seg", "t7.man", "t7.9.hint", "t7.man.tmp"} {
		want(t, "Create", d.Create(name), api.OK)
		d.Append(name, []byte("litter"))
		if i < 2 {
			d.Sync(name)
			d.SyncDir()
		}
	}
}

// refused is a Create of the same number that was refused ahead.
func refused(room int) func(*testing.T, *simfs.Disk, *catalog.Catalog) {
	return func(t *testing.T, d *simfs.Disk, c *catalog.Catalog) {
		d.SetQuota(d.Used() + room)
		wantCreate(t, "without room", c, "other", 0, 0, 0, api.ErrSpace)
		d.SetQuota(1 << 24)
	}
}

func creating(name string) func(*catalog.Catalog) api.Errno {
	return func(c *catalog.Catalog) api.Errno {
		_, e := c.Create(name, 9, 4)
		return e
	}
}

func dropping(name string) func(*catalog.Catalog) api.Errno {
	return func(c *catalog.Catalog) api.Errno { return c.Drop(name) }
}

// plots is Creates and Drops on disks of all kinds.
func plots(t *testing.T) map[string]plot {
	n := func(id int) api.TopicEntry { return api.TopicEntry{Id: id, Name: "n", Limit: 256, Horizon: 9} }
	four, first := append(three(), n(7)), []api.TopicEntry{n(1)}
	all := map[string]plot{
		"the first topic":              {catalogue(1), nothing, creating("n"), nil, first},
		"one more topic":               {lived(t), nothing, creating("n"), three(), four},
		"one more, with pending ones":  {lived(t), pending, creating("n"), three(), four},
		"one more, beside other files": {lived(t).with(others()), nothing, creating("n"), three(), four},
		"one more, over litter":        {lived(t), litter, creating("n"), three(), four},
		"a refused one first":          {lived(t), refused(21 + 20 + 30), creating("n"), three(), four},
		"a segment's refusal first":    {lived(t), refused(20), creating("n"), three(), four},
		"the sixteenth":                {stored(16, crowd(15)...), nothing, creating("n"), crowd(15), append([]api.TopicEntry{n(16)}, crowd(15)...)},
		"the last number":              {stored(lastId, crowd(1)...), nothing, creating("n"), crowd(1), append([]api.TopicEntry{n(lastId)}, crowd(1)...)},
		"the only one goes":            {stored(9, n(1)), nothing, dropping("n"), first, nil},
		"one of many goes":             {stored(17, crowd(16)...), nothing, dropping("n05"), crowd(16), slices.Delete(crowd(16), 5, 6)},
		"a goes behind a refusal":      {lived(t), refused(21 + 20 + 30), dropping("a"), three(), three()[1:]},
	}
	for i, entry := range three() {
		rest := slices.Delete(three(), i, i+1)
		all[entry.Name+" goes"] = plot{lived(t), nothing, dropping(entry.Name), three(), rest}
		all[entry.Name+" goes, with pending ones"] = plot{lived(t).with(others()), pending, dropping(entry.Name), three(), rest}
		all[entry.Name+" has to stay"] = plot{lived(t), tight(30), dropping(entry.Name), three(), rest}
	}
	for _, room := range []int{0, 20, 21, 30, 46, 70} {
		all[fmt.Sprint("room for ", room)] = plot{lived(t), tight(room), creating("n"), three(), four}
	}
	return all
}

// told is the records of each topic that were appended, and how many of them are committed.
type told struct {
	recs map[string][]api.Record
	firm map[string]int
}

// tellAll is what a catalog's topics hold.
func tellAll(t *testing.T, c *catalog.Catalog) told {
	t.Helper()
	s := told{map[string][]api.Record{}, map[string]int{}}
	for name := range c.Names("") {
		recs, e := of(t, c, name).Records()
		want(t, "Records", e, api.OK)
		s.recs[name], s.firm[name] = recs, len(recs)
	}
	return s
}

// late adds the records that pending appends.
func (s told) late() {
	s.recs["a"] = append(s.recs["a"], api.Record{Kind: 1, Offset: 3, Time: 3, Key: "pending", Value: "1"})
	s.recs["b"] = append(s.recs["b"], api.Record{Kind: 1, Offset: 2, Time: 3, Key: "pending", Value: "22"}, api.Record{Kind: 1, Offset: 3, Time: 3, Key: "k", Value: "333"})
}

// wantLeft fails unless a catalog can be opened over what is left, with the topics of before or of behind a call. It tells whether they are those of behind.
func wantLeft(t *testing.T, what string, image []api.File, p plot, s told, e api.Errno) bool {
	t.Helper()
	d := loaded(t, image)
	c, e2 := catalog.Open(d, usual(), 0)
	if c == nil || e2 != api.OK {
		t.Fatalf("%s: Open: %v, %d", what, c, e2)
	}
	same := func(list []api.TopicEntry) bool { return slices.Equal(saidBy(c), list) }
	switch {
	case e == api.OK && !same(p.behind):
		t.Fatalf("%s: %v behind OK", what, saidBy(c))
	case e != api.OK && e != api.ErrDead && !same(p.before):
		t.Fatalf("%s: %v behind %d", what, saidBy(c), e)
	case !same(p.before) && !same(p.behind):
		t.Fatalf("%s: %v", what, saidBy(c))
	}
	for name := range c.Names("") {
		recs, e := of(t, c, name).Records()
		all := s.recs[name] // none of a new one
		if e != api.OK || len(recs) < s.firm[name] || len(recs) > len(all) || !slices.Equal(recs, all[:len(recs)]) {
			t.Fatalf("%s: of %v in %s is left %v, %d", what, all, name, recs, e)
		}
	}
	wantClean(t, what, d, c)
	return same(p.behind)
}

// saidBy is a catalog's topics.
func saidBy(c *catalog.Catalog) []api.TopicEntry {
	var list []api.TopicEntry
	for name := range c.Names("") {
		p, _ := c.Topic(name)
		list = append(list, api.TopicEntry{Id: p.Id(), Name: name, Limit: p.Limit(), Horizon: p.Horizon()})
	}
	return list
}

// wantClean fails if there are files of a number that the catalog does not have, or if something is not durable.
func wantClean(t *testing.T, what string, d *simfs.Disk, c *catalog.Catalog) {
	t.Helper()
	for _, name := range filesOf(d.Image()).names() {
		n := manifest.Parse(name)
		if _, e := c.ById(n.Id); n.Id != 0 && e != api.OK || name == "catalog.tmp" {
			t.Fatalf("%s: %s is left", what, name)
		}
	}
	want(t, what+": all is durable", probe.Key(d.Crash(nil)) == probe.Key(d.Image()), true)
}

// 14.8, 14.10
func TestAllOrNothing(t *testing.T) {
	sides := map[string]int{}
	for what, p := range plots(t) {
		for fuse := 0; ; fuse++ {
			d, c := over(t, p.files)
			s := tellAll(t, c)
			p.ahead(t, d, c)
			if b, e := c.Topic("b"); e == api.OK && b.State().Pending > 0 {
				s.late()
			}
			d.Fuse(fuse)
			e := p.call(c)
			name := fmt.Sprintf("%s, power for %d", what, fuse)
			for _, left := range probe.Leavings(d) {
				behind := wantLeft(t, name, left, p, s, e)
				sides[fmt.Sprint(e, behind)]++
				if fuse%6 == 1 {
					wantNoLess(t, name, left, p, s, e)
				}
			}
			if !d.Dead() {
				break
			}
		}
	}
	if sides["0 true"] < 20 || sides["34 true"] < 100 || sides["34 false"] < 500 || sides["33 false"] < 30 || len(sides) != 4 {
		t.Errorf("%v", sides)
	}
}

// wantNoLess fails unless a catalog can be opened over what a crash within Open leaves, with the same topics.
func wantNoLess(t *testing.T, what string, image []api.File, p plot, s told, e api.Errno) {
	t.Helper()
	behind := wantLeft(t, what, image, p, s, e)
	for fuse := 0; ; fuse += 2 {
		d := loaded(t, image)
		d.Fuse(fuse)
		if _, e := catalog.Open(d, usual(), 0); e == api.OK {
			return
		}
		for _, picks := range [][]int{nil, {1, 1, 1}, {2, 0, 1}, {3, 5, 5, 5}, {9, 1, 0, 1}} {
			again := wantLeft(t, fmt.Sprintf("%s, power for %d in Open", what, fuse), d.Crash(picks), p, s, e)
			want(t, what+": behind the call", again, behind)
		}
	}
}

// 14.8: a topic of which the power went in Create can be written to, if it is there.
func TestCreatedTopicsTakeRecords(t *testing.T) {
	there := 0
	for fuse := range 14 {
		d, c := over(t, lived(t))
		d.Fuse(fuse)
		c.Create("n", 9, 4)
		for _, left := range probe.Leavings(d) {
			again := loaded(t, left)
			c := opened(t, again)
			p, e := c.Topic("n")
			if e != api.OK {
				wantCreate(t, "not there", c, "n", 9, 4, 7, api.OK)
				p = of(t, c, "n")
			} else {
				there++
			}
			want(t, "State", p.State(), api.TopicState{Id: 7, Clock: 4, Segs: 1, Bytes: 21})
			write(t, p, "k", "v")
			want(t, "Commit", p.Commit(), api.OK)
			r, ok, e := of(t, opened(t, loaded(t, again.Crash(nil))), "n").Get("k")
			want(t, "Get", fmt.Sprint(r.Value, ok, e), "vtrue 0")
		}
	}
	if there < 2 {
		t.Errorf("%d", there)
	}
}

// R7: behind a loss of power nothing is created or dropped, and nothing of it is seen.
func TestDeadCatalogs(t *testing.T) {
	d, c := over(t, lived(t))
	unpower(t, d)
	for range 2 {
		undone(t, "without power", d, c, func() {
			wantCreate(t, "without power", c, "n", 0, 0, 0, api.ErrDead)
			want(t, "Drop", c.Drop("a"), api.ErrDead)
		})
	}
	want(t, "the topic is not dropped", of(t, c, "a").State().Segs, 2)
}
