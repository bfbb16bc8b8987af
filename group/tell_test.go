package group_test

import (
	"fmt"
	"slices"
	"testing"

	"chronicle/api"
	"chronicle/group"
)

// 15.7, R1: groups that are nil, or that New has not made.
func TestNobody(t *testing.T) {
	for _, g := range []*group.Groups{nil, {}} {
		for _, name := range []string{"a", "", "A"} {
			wantJoin(t, "nobody", g, name, 0, api.ErrNil)
			wantSet(t, "nobody", g, name, 1, 1, 1, api.ErrNil)
			wantSet(t, "nobody", g, name, 1, -1, -1, api.ErrNil)
			pos, there, e := g.At(name, 1)
			want(t, "At", fmt.Sprint(pos, there, e), "0 false 1")
			gen, there, e := g.Generation(name)
			want(t, "Generation", fmt.Sprint(gen, there, e), "0 false 1")
			want(t, "Positions", len(g.Positions(name)), 0)
		}
		wantForget(t, "nobody", g, 1, 0, api.ErrNil)
		wantForget(t, "nobody", g, -1, 0, api.ErrNil)
		want(t, "Commit", g.Commit(), api.ErrNil)
		want(t, "Names", len(g.Names()), 0)
		want(t, "Pending", g.Pending(), 0)
	}
}

// 15.7: each call of its own, ahead of a Commit and behind it.
func TestEachAnswerWaitsForACommit(t *testing.T) {
	_, _, g := none(t)
	wantJoin(t, "ahead", g, "a", 1, api.OK)
	wantSet(t, "ahead", g, "a", 1, 3, 7, api.OK)
	wantGen(t, "ahead", g, "a", 0)
	wantAt(t, "ahead", g, "a", 3, -1)
	want(t, "Positions", len(g.Positions("a")), 0)
	want(t, "Names", len(g.Names()), 0)
	want(t, "Pending", g.Pending(), 2)
	wantCommit(t, "ahead", g)
	wantGen(t, "behind", g, "a", 1)
	wantAt(t, "behind", g, "a", 3, 7)
	wantList(t, "Positions", g.Positions("a"), []api.GroupPos{{Group: "a", Topic: 3, Pos: 7}})
	wantList(t, "Names", g.Names(), []string{"a"})
	// And each of them is the first that is asked behind a roll by somebody else.
	for i, ask := range []func(*testing.T, *group.Groups){
		func(t *testing.T, g *group.Groups) { wantGen(t, "rolled", g, "b", 1) },
		func(t *testing.T, g *group.Groups) { wantAt(t, "rolled", g, "b", 3, 7) },
		func(t *testing.T, g *group.Groups) {
			wantList(t, "rolled: Positions", g.Positions("b"), []api.GroupPos{{Group: "b", Topic: 3, Pos: 7}})
		},
		func(t *testing.T, g *group.Groups) { wantList(t, "rolled: Names", g.Names(), []string{"b"}) },
		func(t *testing.T, g *group.Groups) { want(t, "rolled: Pending", g.Pending(), 0) },
	} {
		_, p, g := none(t)
		wantJoin(t, fmt.Sprint(i), g, "b", 1, api.OK)
		wantSet(t, fmt.Sprint(i), g, "b", 1, 3, 7, api.OK)
		want(t, "Roll", p.Roll(), api.OK)
		ask(t, g)
	}
}

// 15.7: the groups' names and the topics' numbers rise, whatever order they came in.
func TestOrders(t *testing.T) {
	_, _, g := none(t)
	var all []string
	for i := range 60 {
		all = append(all, fmt.Sprint(string(letters[i*7%37]), i*13%60))
	}
	for i, name := range all {
		wantJoin(t, "orders", g, name, 1, api.OK)
		for j := range 10 {
			wantSet(t, "orders", g, name, 1, (j*7+i)%10*1000, int64(i+j), api.OK)
		}
	}
	wantCommit(t, "orders", g)
	wantList(t, "Names", g.Names(), slices.Sorted(slices.Values(all)))
	for i, name := range all {
		var list []api.GroupPos
		for k := range 10 {
			for j := range 10 {
				if (j*7+i)%10 == k {
					list = append(list, api.GroupPos{Group: name, Topic: k * 1000, Pos: int64(i + j)})
				}
			}
		}
		wantList(t, "Positions of "+name, g.Positions(name), list)
	}
}

// 15.7: names of which one begins the other, and numbers that do so in decimal, are apart.
func TestAlikeOnesAreApart(t *testing.T) {
	_, _, g := none(t)
	for i, name := range []string{"a", "a-", "a-1", "1", "11"} {
		wantJoin(t, "alike", g, name, 1, api.OK)
		for j, id := range []int{1, 11, 111} {
			wantSet(t, "alike", g, name, 1, id, int64(i*10+j), api.OK)
		}
	}
	wantCommit(t, "alike", g)
	for i, name := range []string{"a", "a-", "a-1", "1", "11"} {
		for j, id := range []int{1, 11, 111} {
			wantAt(t, "alike", g, name, id, int64(i*10+j))
		}
	}
	wantForget(t, "alike", g, 11, 5, api.OK)
	wantCommit(t, "alike", g)
	for i, name := range []string{"a", "a-", "a-1", "1", "11"} {
		wantList(t, "Positions of "+name, g.Positions(name), []api.GroupPos{{Group: name, Topic: 1, Pos: int64(i * 10)}, {Group: name, Topic: 111, Pos: int64(i*10 + 2)}})
	}
}

// 15.7: a group that was never joined, a position that was set, forgotten and set again.
func TestNoneAndAgain(t *testing.T) {
	_, _, g := over(t, generation("a", 1))
	wantGen(t, "never joined", g, "b", 0)
	wantAt(t, "never joined", g, "b", 3, -1)
	for _, pos := range []int64{5, 0, 4} {
		wantAt(t, "none", g, "a", 3, -1)
		want(t, "Positions", len(g.Positions("a")), 0)
		wantSet(t, "set", g, "a", 1, 3, pos, api.OK)
		wantCommit(t, "set", g)
		wantAt(t, "set", g, "a", 3, pos)
		wantForget(t, "forgotten", g, 3, 1, api.OK)
		wantCommit(t, "forgotten", g)
	}
	wantGen(t, "it stays", g, "a", 1)
}

// 15.7, R7: what is told of the committed state needs no power.
func TestTellingWithoutPower(t *testing.T) {
	d, _, g := over(t, generation("a", 1), position("a", 3, 7))
	wantJoin(t, "pending", g, "a", 2, api.OK)
	before := told(g)
	unpower(t, d)
	want(t, "told", told(g), before)
	want(t, "Commit", g.Commit(), api.ErrDead)
	want(t, "told", told(g), before)
}

// A topic that somebody drops has committed nothing of what was pending.
func TestTellingOfDroppedTopics(t *testing.T) {
	_, p, g := over(t, generation("a", 1), position("a", 3, 7))
	wantJoin(t, "pending", g, "a", 2, api.OK)
	want(t, "Drop", p.Drop(), api.OK)
	wantGen(t, "dropped", g, "a", 1)
	wantAt(t, "dropped", g, "a", 3, 7)
	want(t, "Pending", g.Pending(), 0)
}

// What was committed ahead of a drop stays told, though nobody asked ahead of it.
func TestTellingOfWhatWasCommittedAheadOfADrop(t *testing.T) {
	_, p, g := over(t, generation("a", 1))
	wantJoin(t, "committed", g, "a", 2, api.OK)
	want(t, "Commit", g.Commit(), api.OK)
	want(t, "Drop", p.Drop(), api.OK)
	wantGen(t, "dropped", g, "a", 2)
}
