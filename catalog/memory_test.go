package catalog_test

import (
	"slices"
	"testing"
	"unsafe"

	"chronicle/api"
	"chronicle/probe"
)

// loose is a text that changes with its bytes.
func loose(b []byte) string { return unsafe.String(&b[0], len(b)) }

// 14.7
func TestNamesHandedInAreNotKept(t *testing.T) {
	d, c := formatted(t)
	for _, name := range []string{"beta", "alpha", "gamma"} {
		b, same := probe.Roomy(name)
		c.Create(loose(b), 0, 0)
		c.Topic(loose(b))
		given(c, loose(b))
		want(t, "the name is not changed", same(), true)
		copy(b, "zzzzz")
	}
	list := []api.TopicEntry{{Id: 2, Name: "alpha", Limit: 256, Horizon: 100}, {Id: 1, Name: "beta", Limit: 256, Horizon: 100}, {Id: 3, Name: "gamma", Limit: 256, Horizon: 100}}
	wantTopics(t, "created", c, list...)
	b, same := probe.Roomy("beta")
	want(t, "Drop", c.Drop(loose(b)), api.OK)
	want(t, "the name is not changed", same(), true)
	copy(b, "gamm")
	list = slices.Delete(list, 1, 2)
	wantTopics(t, "dropped", c, list...)
	wantCreate(t, "one more", c, "delta", 0, 0, 4, api.OK)
	list = slices.Insert(list, 1, api.TopicEntry{Id: 4, Name: "delta", Limit: 256, Horizon: 100})
	wantDurable(t, "one more", d, stored(5, list...))
}

// 14.7
func TestListsAreNewMemory(t *testing.T) {
	_, c := over(t, lived(t))
	first, second := c.List(), c.List()
	probe.Scribble(append(first, api.TopicInfo{Name: "x"}))
	probe.Scribble(first)
	wantList(t, "another list", second, livedInfos())
	wantList(t, "the next list", c.List(), livedInfos())
	wantTopics(t, "the topics", c, three()...)
	// What was told stays as it is, whatever becomes of the topics.
	write(t, of(t, c, "a"), "more", "x")
	of(t, c, "a").Commit()
	c.Drop("b")
	c.Create("b-1", 0, 0)
	wantList(t, "an old list", second, livedInfos())
}

// What somebody makes of the names changes nothing.
func TestGivenNamesAreNewMemory(t *testing.T) {
	_, c := over(t, lived(t))
	names := given(c, "")
	probe.Scribble(names)
	wantList(t, "Names", given(c, ""), []string{"a", "b", "b-2"})
}

// R2: catalogs of other disks know nothing of each other, and of one disk the later one tells what was on it when it was opened.
func TestCatalogsAreApart(t *testing.T) {
	d, c := over(t, lived(t))
	_, other := over(t, lived(t))
	want(t, "Drop", c.Drop("a"), api.OK)
	wantCreate(t, "apart", c, "x", 0, 0, 7, api.OK)
	wantTopics(t, "the other one", other, three()...)
	wantCreate(t, "apart", other, "y", 0, 0, 7, api.OK)
	wantTopics(t, "this one", opened(t, d), append(slices.Clone(three()[1:]), api.TopicEntry{Id: 7, Name: "x", Limit: 256, Horizon: 100})...)
}
