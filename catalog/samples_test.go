package catalog_test

import (
	"fmt"
	"maps"
	"slices"
	"strings"
	"testing"

	"chronicle/api"
	"chronicle/catalog"
	"chronicle/manifest"
	"chronicle/probe"
	"chronicle/simfs"
	"chronicle/topic"
)

// The greatest numbers that may be.
const (
	lastId   = 1<<30 - 1
	lastTime = 1<<50 - 1
	horizons = 1 << 40
)

// usual is the config of the chapter's examples.
func usual() api.Config { return api.Config{Limit: 256, Horizon: 100} }

// files is what lies on a disk, by names.
type files map[string]string

// with is the same files and others, which come in the place of those of their names.
func (f files) with(others files) files {
	all := files{}
	maps.Copy(all, f)
	maps.Copy(all, others)
	return all
}

func (f files) without(names ...string) files {
	all := files{}
	for name, b := range f {
		if !slices.Contains(names, name) {
			all[name] = b
		}
	}
	return all
}

func (f files) names() []string { return slices.Sorted(maps.Keys(f)) }

// of is those files that are of a topic's number.
func (f files) of(id int) files {
	some := files{}
	for name, b := range f {
		if isOf(name, id) {
			some[name] = b
		}
	}
	return some
}

func (f files) image() []api.File {
	var image []api.File
	for _, name := range f.names() {
		image = append(image, api.File{Name: name, Data: []byte(f[name])})
	}
	return image
}

func filesOf(image []api.File) files {
	f := files{}
	for _, one := range image {
		f[one.Name] = string(one.Data)
	}
	return f
}

// isOf tells whether a file is of a topic's number, by the letters of its name.
func isOf(name string, id int) bool {
	rest, ok := strings.CutPrefix(strings.TrimSuffix(name, ".tmp"), fmt.Sprintf("t%d.", id))
	number, end, two := strings.Cut(rest, ".")
	if !two {
		return ok && rest == "man"
	}
	seg := 0
	fmt.Sscan(number, &seg)
	return ok && (end == "seg" || end == "hint") && seg >= 1 && seg <= lastId && fmt.Sprint(seg) == number
}

// holding is a disk with such files, all of it durable.
func holding(t *testing.T, f files) *simfs.Disk {
	t.Helper()
	return loaded(t, f.image())
}

func loaded(t *testing.T, image []api.File) *simfs.Disk {
	t.Helper()
	d, e := simfs.Load(image, 1<<24)
	if e != api.OK {
		t.Fatalf("Load: %d", e)
	}
	return d
}

// unpower takes a disk's power away.
func unpower(t *testing.T, d *simfs.Disk) {
	t.Helper()
	d.Fuse(0)
	want(t, "SyncDir", d.SyncDir(), api.ErrDead)
}

// catalogue is the file of a catalogue.
func catalogue(next int, topics ...api.TopicEntry) files {
	b, e := manifest.EncodeCatalogue(api.Catalogue{NextId: next, Topics: topics})
	if e != api.OK {
		panic(fmt.Sprint(topics, e))
	}
	return files{"catalog": string(b)}
}

// fresh is the files of a topic that has just been created.
func fresh(entry api.TopicEntry, now int64) files {
	d, _ := simfs.New(1 << 20)
	if _, e := topic.Create(d, entry.Id, entry.Limit, entry.Horizon, now); e != api.OK {
		panic(fmt.Sprint(entry, e))
	}
	return filesOf(d.Image())
}

// stored is the files of a store with such topics, which have just been created at the time 0.
func stored(next int, topics ...api.TopicEntry) files {
	f := catalogue(next, topics...)
	for _, entry := range topics {
		f = f.with(fresh(entry, 0))
	}
	return f
}

// crowd is so many topics: n00, n01 .. with the numbers 1, 2 ..
func crowd(n int) []api.TopicEntry {
	var list []api.TopicEntry
	for i := range n {
		list = append(list, api.TopicEntry{Id: i + 1, Name: fmt.Sprintf("n%02d", i), Limit: 256, Horizon: 100})
	}
	return list
}

// three is the topics of the store that lived makes: their numbers rise otherwise than their names.
func three() []api.TopicEntry {
	return []api.TopicEntry{
		{Id: 4, Name: "a", Limit: 256, Horizon: 5},
		{Id: 1, Name: "b", Limit: 300, Horizon: 100},
		{Id: 2, Name: "b-2", Limit: 256, Horizon: 0},
	}
}

// lived is the files of a store that has been used: a has two segments with records, b one, and b-2 no record; the next number is 7.
func lived(t *testing.T) files {
	t.Helper()
	d := holding(t, stored(7, three()...))
	for _, entry := range three()[:2] {
		p, e := topic.Open(d, entry.Id, entry.Limit, entry.Horizon, 3)
		want(t, "topic.Open", e, api.OK)
		write(t, p, "k", "value of "+entry.Name)
		write(t, p, "l", "2")
		want(t, "Commit", p.Commit(), api.OK)
		if entry.Name == "a" {
			want(t, "Roll", p.Roll(), api.OK)
			write(t, p, "k", "anew")
			want(t, "Commit", p.Commit(), api.OK)
		}
	}
	return filesOf(d.Image())
}

// livedInfos is what List tells of it.
func livedInfos() []api.TopicInfo {
	return []api.TopicInfo{{Name: "a", Id: 4, Next: 3, Segs: 2, Live: 2}, {Name: "b", Id: 1, Next: 2, Segs: 1, Live: 2}, {Name: "b-2", Id: 2, Segs: 1}}
}

// write appends a value that has to be taken, at the time 3.
func write(t *testing.T, p *topic.Topic, key, value string) {
	t.Helper()
	if _, again, e := p.Append(3, api.Write{Key: key, Value: value}); again || e != api.OK {
		t.Fatalf("Append: %t, %d", again, e)
	}
}

// formatted is a new catalog on a disk of its own.
func formatted(t *testing.T) (*simfs.Disk, *catalog.Catalog) {
	t.Helper()
	d := holding(t, nil)
	c, e := catalog.Format(d, usual())
	if c == nil || e != api.OK {
		t.Fatalf("Format: %v, %d", c, e)
	}
	return d, c
}

// opened is a catalog that has to be opened, at the time 0.
func opened(t *testing.T, d *simfs.Disk) *catalog.Catalog {
	t.Helper()
	c, e := catalog.Open(d, usual(), 0)
	if c == nil || e != api.OK {
		t.Fatalf("Open: %v, %d", c, e)
	}
	return c
}

// over is a catalog that is opened over files.
func over(t *testing.T, f files) (*simfs.Disk, *catalog.Catalog) {
	t.Helper()
	d := holding(t, f)
	return d, opened(t, d)
}

// of is the topic of a name that has to be there.
func of(t *testing.T, c *catalog.Catalog, name string) *topic.Topic {
	t.Helper()
	p, e := c.Topic(name)
	if p == nil || e != api.OK {
		t.Fatalf("Topic(%q): %v, %d", name, p, e)
	}
	return p
}

// given is all names that begin so.
func given(c *catalog.Catalog, prefix string) []string { return slices.Collect(c.Names(prefix)) }

// want fails if an answer is another one than is wanted.
func want[T comparable](t *testing.T, what string, got, wanted T) {
	t.Helper()
	if got != wanted {
		t.Errorf("%s: %v, want %v", what, got, wanted)
	}
}

func wantList[T comparable](t *testing.T, what string, got, wanted []T) {
	t.Helper()
	if !slices.Equal(got, wanted) {
		t.Errorf("%s: %.600v, want %.600v", what, got, wanted)
	}
}

// wantFiles fails unless an image has just these files.
func wantFiles(t *testing.T, what string, image []api.File, f files) {
	t.Helper()
	got := filesOf(image)
	wantList(t, what+": names", got.names(), f.names())
	for name, b := range f {
		if got[name] != b {
			t.Errorf("%s: %s has %x, want %x", what, name, got[name], b)
		}
	}
}

// wantDurable fails unless a disk has just these files, and a crash leaves them.
func wantDurable(t *testing.T, what string, d *simfs.Disk, f files) {
	t.Helper()
	wantFiles(t, what, d.Image(), f)
	for _, picks := range [][]int{nil, {1, 1, 1, 1}, {2, 2, 2, 2, 2}, {3}} {
		wantFiles(t, what+", behind a crash", d.Crash(picks), f)
	}
}

// wantRefused fails if a catalog was made all the same, or another error is told.
func wantRefused(t *testing.T, what string, c *catalog.Catalog, e, wanted api.Errno) {
	t.Helper()
	if c != nil || e != wanted {
		t.Errorf("%s: %v, %d, want no catalog, %d", what, c, e, wanted)
	}
}

// wantCreate fails unless Create answers so.
func wantCreate(t *testing.T, what string, c *catalog.Catalog, name string, horizon, now int64, id int, errno api.Errno) {
	t.Helper()
	if n, e := c.Create(name, horizon, now); n != id || e != errno {
		t.Errorf("%s: Create(%.40q, %d, %d) = %d, %d, want %d, %d", what, name, horizon, now, n, e, id, errno)
	}
}

// wantTopics fails unless a catalog has just these topics, by whatever call it is asked.
func wantTopics(t *testing.T, what string, c *catalog.Catalog, topics ...api.TopicEntry) {
	t.Helper()
	var names []string
	for _, entry := range topics {
		names = append(names, entry.Name)
		p, e := c.Topic(entry.Name)
		q, f := c.ById(entry.Id)
		if p == nil || p != q || e != api.OK || f != api.OK {
			t.Errorf("%s: %s is %p, %d, and %d is %p, %d", what, entry.Name, p, e, entry.Id, q, f)
			continue
		}
		got := api.TopicEntry{Id: p.Id(), Name: entry.Name, Limit: p.Limit(), Horizon: p.Horizon()}
		want(t, what+": "+entry.Name, got, entry)
	}
	wantList(t, what+": Names", given(c, ""), names)
	var listed []string
	for i, info := range c.List() {
		listed = append(listed, info.Name)
		if i < len(topics) {
			want(t, what+": the number in the list", info.Id, topics[i].Id)
		}
	}
	wantList(t, what+": List", listed, names)
}

// undone fails unless a call changes nothing: neither on the disk, nor in a catalog over it.
func undone(t *testing.T, what string, d *simfs.Disk, c *catalog.Catalog, call func()) {
	t.Helper()
	before, ops, dead, list := sight(d), d.Ops(), d.Dead(), c.List()
	var held []*topic.Topic
	for _, name := range given(c, "") {
		held = append(held, of(t, c, name))
	}
	call()
	want(t, what+": the disk is as it was", sight(d) == before, true)
	want(t, what+": operations", d.Ops(), ops)
	want(t, what+": without power", d.Dead(), dead)
	wantList(t, what+": List", c.List(), list)
	for i, name := range given(c, "") {
		want(t, what+": the topic "+name, of(t, c, name), held[i])
	}
}

// sight is all that can be seen of a disk's files, and of what a crash would leave of them.
func sight(d *simfs.Disk) string {
	all := probe.Key(d.Image())
	for named := range 12 {
		all += "\n" + probe.Key(d.Crash([]int{named})) + "\n" + probe.Key(d.Crash([]int{named, 1, 1, 1, 1, 1, 1, 1}))
	}
	for seed := range uint64(5) {
		var picks []int
		for _, x := range probe.Noise(seed, 14) {
			picks = append(picks, int(x>>20%1000))
		}
		all += "\n" + probe.Key(d.Crash(picks))
	}
	return all
}

// alike fails unless two disks are the same in all that can be seen of them.
func alike(t *testing.T, what string, d, twin *simfs.Disk) {
	t.Helper()
	if sight(d) != sight(twin) || d.Ops() != twin.Ops() || d.Dead() != twin.Dead() || d.Used() != twin.Used() {
		t.Errorf("%s: %d operations, %v, want %d, %v", what, d.Ops(), filesOf(d.Image()).names(), twin.Ops(), filesOf(twin.Image()).names())
	}
}
