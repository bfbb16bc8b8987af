package catalog_test

import (
	"fmt"
	"slices"
	"testing"

	"chronicle/api"
	"chronicle/catalog"
	"chronicle/probe"
)

// 14.9: whatever comes between, a number that was given is not given again.
func TestNumbersAreNotGivenAgain(t *testing.T) {
	for round := range 4 {
		d, c := formatted(t)
		var given []int
		for i := range 40 {
			name := fmt.Sprint("n", i%3)
			id, e := c.Create(name, 0, 0)
			if e != api.OK || slices.Contains(given, id) {
				t.Fatalf("%s: %d, %d behind %v", name, id, e, given)
			}
			given = append(given, id)
			if i%3 == 2 {
				for j := range 3 {
					want(t, "Drop", c.Drop(fmt.Sprint("n", j)), api.OK)
				}
			}
			switch (i + round) % 4 {
			case 0:
				c = opened(t, d)
			case 1:
				d = loaded(t, d.Crash([]int{i, i, i, i}))
				c = opened(t, d)
			}
		}
	}
}

// 14.9: nor is one of a Create in which the power went, if its topic is there.
func TestNumbersBehindCrashes(t *testing.T) {
	there := 0
	for fuse := range 14 {
		d, c := over(t, lived(t))
		d.Fuse(fuse)
		_, e := c.Create("n", 0, 0)
		for _, left := range probe.Leavings(d) {
			c := opened(t, loaded(t, left))
			_, f := c.Topic("n")
			if f == api.OK {
				there++
			}
			want(t, "it is there", f == api.OK || e != api.OK, true)
			for range 2 {
				id, e := c.Create("m", 0, 0)
				want(t, "Create", e, api.OK)
				want(t, "the number", id > 7 || id == 7 && f != api.OK, true)
				want(t, "Drop", c.Drop("m"), api.OK)
				p, e := c.ById(id)
				want(t, "ById", p == nil && e == api.ErrNoTopic, true)
				f = api.OK // that number is given now
			}
		}
	}
	if there < 2 {
		t.Errorf("%d", there)
	}
}

// 14.9: nor one of a topic whose Drop was cut off, whether it is there still or not.
func TestNumbersBehindDrops(t *testing.T) {
	d, c := formatted(t)
	wantCreate(t, "first", c, "a", 0, 0, 1, api.OK)
	wantCreate(t, "second", c, "b", 0, 0, 2, api.OK)
	image := d.Image()
	for fuse := range 10 {
		d := loaded(t, image)
		c := opened(t, d)
		d.Fuse(fuse)
		c.Drop("b")
		for _, left := range probe.Leavings(d) {
			c := opened(t, loaded(t, left))
			wantCreate(t, "behind it", c, "x", 0, 0, 3, api.OK)
		}
	}
}

// 14.10: good names, horizons and times are refused for no other reason.
func TestGoodOnesAreTaken(t *testing.T) {
	for _, horizon := range []int64{0, 1, horizons} {
		for _, now := range []int64{0, 5, lastTime} {
			for n, f := range []files{stored(1), stored(2, crowd(1)...), stored(16, crowd(15)...), stored(lastId, crowd(15)...)} {
				_, c := over(t, f.with(others()))
				id, e := c.Create("a", horizon, now)
				want(t, "Create", e, api.OK)
				want(t, "the number", id, []int{1, 2, 16, lastId}[n])
			}
		}
	}
}

// 14.10: what is refused is not seen, neither in List nor behind an Open.
func TestRefusedOnesAreNotSeen(t *testing.T) {
	f := stored(17, crowd(16)...)
	for what, refuse := range map[string]func(*catalog.Catalog) api.Errno{
		"one more":    creating("a"),
		"a wrong one": creating("A"),
		"one that is": creating("n00"),
		"not there":   dropping("a"),
	} {
		d, c := over(t, f)
		undone(t, what, d, c, func() { want(t, what+": refused", refuse(c) != api.OK, true) })
		wantTopics(t, what, c, crowd(16)...)
		wantTopics(t, what+", opened", opened(t, loaded(t, d.Crash(nil))), crowd(16)...)
	}
	// On a disk without room, with each room that is too little.
	for room := range 21 + 16 + 11 {
		d, c := over(t, catalogue(7))
		d.SetQuota(d.Used() + room)
		wantCreate(t, "no room", c, "a", 0, 0, 0, api.ErrSpace)
		wantTopics(t, "no room", c)
		for _, left := range probe.Leavings(d) {
			wantTopics(t, "no room, opened", opened(t, loaded(t, left)))
		}
	}
}
