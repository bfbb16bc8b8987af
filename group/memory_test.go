package group_test

import (
	"strings"
	"testing"

	"chronicle/api"
	"chronicle/probe"
)

// 15.8
func TestWhatIsToldIsNewMemory(t *testing.T) {
	_, _, g := over(t, generation("a", 1), generation("b", 2), position("a", 3, 7), position("a", 4, 8), position("b", 3, 9))
	first, second := g.Positions("a"), g.Positions("a")
	right := []api.GroupPos{{Group: "a", Topic: 3, Pos: 7}, {Group: "a", Topic: 4, Pos: 8}}
	probe.Scribble(append(first, api.GroupPos{Group: "x"}))
	probe.Scribble(first)
	wantList(t, "another list", second, right)
	wantList(t, "the next list", g.Positions("a"), right)
	names, others := g.Names(), g.Names()
	probe.Scribble(append(names, "x"))
	probe.Scribble(names)
	wantList(t, "other names", others, []string{"a", "b"})
	wantList(t, "the next names", g.Names(), []string{"a", "b"})
	// What was told stays as it is, whatever becomes of the groups.
	wantForget(t, "later", g, 3, 2, api.OK)
	wantJoin(t, "later", g, "0", 1, api.OK)
	wantCommit(t, "later", g)
	wantList(t, "an old list", second, right)
	wantList(t, "old names", others, []string{"a", "b"})
}

// R3: a name may be a piece of a long text; it is the same group as by any other text of the same bytes.
func TestNamesThatArePieces(t *testing.T) {
	_, _, g := none(t)
	text := strings.Repeat("xab", 100)
	wantJoin(t, "a piece", g, text[1:2], 1, api.OK)
	wantJoin(t, "another piece", g, text[100*3-2:100*3-1], 2, api.OK)
	wantSet(t, "a piece", g, text[4:5], 2, 3, 7, api.OK)
	wantCommit(t, "a piece", g)
	wantAt(t, "its bytes", g, string([]byte{'a'}), 3, 7)
	wantList(t, "Names", g.Names(), []string{"a"})
}

// R2: groups of other topics know nothing of each other.
func TestGroupsAreApart(t *testing.T) {
	_, _, g := over(t, generation("a", 1), position("a", 3, 7))
	_, _, other := over(t, generation("a", 1), position("a", 3, 7))
	before := told(other)
	wantJoin(t, "this one", g, "a", 2, api.OK)
	wantForget(t, "this one", g, 3, 1, api.OK)
	wantCommit(t, "this one", g)
	want(t, "the other one", told(other), before)
	wantSet(t, "the other one", other, "a", 1, 3, 9, api.OK)
}
