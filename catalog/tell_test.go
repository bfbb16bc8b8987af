package catalog_test

import (
	"fmt"
	"iter"
	"math"
	"slices"
	"strings"
	"testing"

	"chronicle/api"
	"chronicle/catalog"
	"chronicle/topic"
)

// 14.5
func TestTopicAndById(t *testing.T) {
	d, c := over(t, lived(t).with(others()))
	wantCreate(t, "n", c, "n", 0, 0, 7, api.OK)
	wantCreate(t, "o", c, "o", 0, 0, 8, api.OK)
	want(t, "Drop", c.Drop("n"), api.OK)
	want(t, "Drop", c.Drop("b"), api.OK)
	undone(t, "Topic and ById", d, c, func() {
		for range 2 {
			for _, entry := range []api.TopicEntry{three()[0], three()[2], {Id: 8, Name: "o", Limit: 256, Horizon: 100}} {
				p, q := of(t, c, entry.Name), of(t, c, entry.Name)
				want(t, "one topic", p, q)
				want(t, "its number", p.Id(), entry.Id)
				r, e := c.ById(entry.Id)
				want(t, "ById", fmt.Sprint(r == p, e), "true 0")
			}
			for _, name := range append(wrongNames(), "b", "n", "c", "O", "b-", "b-22", "t4", strings.Repeat("a", 24)) {
				p, e := c.Topic(name)
				want(t, fmt.Sprintf("Topic(%.30q)", name), fmt.Sprint(p == nil, e), "true 141")
			}
			for _, id := range []int{math.MinInt, -4, -1, 0, 1, 3, 5, 6, 7, 9, lastId, lastId + 1, math.MaxInt} {
				p, e := c.ById(id)
				want(t, fmt.Sprintf("ById(%d)", id), fmt.Sprint(p == nil, e), "true 141")
			}
		}
	})
	// They are there without power too.
	unpower(t, d)
	want(t, "without power", of(t, c, "a").Id(), 4)
	p, e := c.ById(2)
	want(t, "without power", fmt.Sprint(p == of(t, c, "b-2"), e), "true 0")
	p, e = c.ById(1)
	want(t, "without power", fmt.Sprint(p == nil, e), "true 141")
}

// 14.6
func TestList(t *testing.T) {
	_, c := formatted(t)
	want(t, "no topics", len(c.List()), 0)
	d, c := over(t, lived(t))
	infos := livedInfos()
	a, empty := of(t, c, "a"), of(t, c, "b-2")
	undone(t, "List", d, c, func() { wantList(t, "List", c.List(), infos) })
	// Pending records do not count, committed ones do.
	write(t, a, "new", "x")
	write(t, empty, "k", "v")
	write(t, empty, "k", "w")
	wantList(t, "pending", c.List(), infos)
	want(t, "Commit", a.Commit(), api.OK)
	infos[0].Next, infos[0].Live = 4, 3
	wantList(t, "a is committed", c.List(), infos)
	want(t, "Commit", empty.Commit(), api.OK)
	infos[2].Next, infos[2].Live = 2, 1
	wantList(t, "b-2 is committed", c.List(), infos)
	_, _, e := a.Append(9, api.Write{Key: "new", Tombstone: true})
	want(t, "Append", e, api.OK)
	want(t, "Roll", a.Roll(), api.OK)
	infos[0] = api.TopicInfo{Name: "a", Id: 4, Next: 5, Segs: 3, Live: 2}
	wantList(t, "rolled", c.List(), infos)
	wantCreate(t, "List", c, "aa", 0, 0, 7, api.OK)
	infos = slices.Insert(infos, 1, api.TopicInfo{Name: "aa", Id: 7, Segs: 1})
	wantList(t, "created", c.List(), infos)
	want(t, "Drop", c.Drop("b"), api.OK)
	infos = slices.Delete(infos, 2, 3)
	wantList(t, "dropped", c.List(), infos)
	unpower(t, d)
	wantList(t, "without power", c.List(), infos)
	// Of one that its holder has dropped its State tells the number alone.
	want(t, "topic.Drop", a.Drop(), api.ErrDead)
	infos[0] = api.TopicInfo{Name: "a", Id: 4}
	wantList(t, "dropped by its holder", c.List(), infos)
}

// named is a catalog with such topics.
func named(t *testing.T, names ...string) *catalog.Catalog {
	t.Helper()
	_, c := formatted(t)
	for i, name := range names {
		wantCreate(t, "named", c, name, 0, 0, i+1, api.OK)
	}
	return c
}

// 14.6
func TestNames(t *testing.T) {
	all := []string{"zz", "a-b", "-", "0", "ab", "a", "abc", "b", "9", "a0", "za", "--", "z"}
	c := named(t, all...)
	rising := slices.Sorted(slices.Values(all))
	prefixes := append([]string{"", "a", "ab", "abcd", "a-", "-", "z", "zzz", "A", "\xff", "\x00", "b ", "c", "é", strings.Repeat("a", 1<<12)}, all...)
	for _, prefix := range prefixes {
		var begin []string
		for _, name := range rising {
			if strings.HasPrefix(name, prefix) {
				begin = append(begin, name)
			}
		}
		wantList(t, fmt.Sprintf("Names(%.20q)", prefix), given(c, prefix), begin)
	}
	_, none := formatted(t)
	for _, prefix := range []string{"", "a"} {
		wantList(t, "no topics", given(none, prefix), nil)
	}
}

// A going through ends when it is told so, and the next one begins anew.
func TestNamesBrokenOff(t *testing.T) {
	c := named(t, "c", "a", "b", "x")
	seq := c.Names("")
	for n := range 4 {
		var some []string
		for name := range seq {
			some = append(some, name)
			if len(some) > n {
				break
			}
		}
		wantList(t, "broken off", some, []string{"a", "b", "c", "x"}[:n+1])
	}
	wantList(t, "begun anew", slices.Collect(seq), []string{"a", "b", "c", "x"})
	// Two that go on at the same time.
	next, stop := iter.Pull(seq)
	defer stop()
	for name := range seq {
		other, ok := next()
		want(t, "both", fmt.Sprint(other, ok), name+"true")
	}
}

// To call Names does nothing: what counts is when a going through begins.
func TestNamesAreThoseOfTheBeginning(t *testing.T) {
	c := named(t, "b", "c", "d")
	seq := c.Names("")
	wantCreate(t, "behind the call", c, "a", 0, 0, 4, api.OK)
	want(t, "Drop", c.Drop("c"), api.OK)
	wantList(t, "as it is now", slices.Collect(seq), []string{"a", "b", "d"})
	var got []string
	for name := range seq {
		got = append(got, name)
		want(t, "Drop", c.Drop("d"), []api.Errno{api.OK, api.ErrNoTopic, api.ErrNoTopic}[len(got)-1])
		wantCreate(t, "within", c, fmt.Sprint("n", len(got)), 0, 0, 4+len(got), api.OK)
		want(t, "Drop of what is given", c.Drop(name), []api.Errno{api.OK, api.OK, api.ErrNoTopic}[len(got)-1])
	}
	wantList(t, "what there was at the beginning", got, []string{"a", "b", "d"})
	wantList(t, "what there is behind it", slices.Collect(seq), []string{"n1", "n2", "n3"})
	for name := range seq {
		for other := range seq { // all go within
			want(t, "Drop", c.Drop(other), api.OK)
		}
		got = append(got, name)
	}
	wantList(t, "what there was", got[3:], []string{"n1", "n2", "n3"})
	wantList(t, "nothing", slices.Collect(seq), nil)
}

// 14.6: a catalog that is dead tells its names, too.
func TestNamesWithoutPower(t *testing.T) {
	d, c := over(t, lived(t))
	seq := c.Names("b")
	unpower(t, d)
	wantList(t, "without power", slices.Collect(seq), []string{"b", "b-2"})
	var p *topic.Topic
	for name := range seq {
		p = of(t, c, name)
	}
	want(t, "the last one", p.Id(), 2)
}
