package sched_test

import (
	"testing"

	"chronicle/api"
	"chronicle/sched"
)

// 19.3

func TestNextOfTheExample(t *testing.T) {
	q, _ := sched.Enter(api.Turns{}, 1, 4)
	q, _ = sched.Enter(q, 2, 2)
	for _, c := range []struct{ id, cost int }{{1, 3}, {1, 3}, {2, 1}, {2, 1}, {2, 1}} {
		q, _ = sched.Ask(q, c.id, c.cost)
	}
	for _, c := range []struct {
		id, cost int
		after    api.Turns
	}{
		{1, 3, api.Turns{Queues: []api.Queue{owing(1, 4, 1, 3), queue(2, 2, 1, 1, 1)}, Fresh: true}},
		{2, 1, api.Turns{Queues: []api.Queue{owing(1, 4, 1, 3), owing(2, 2, 1, 1, 1)}, At: 1, Fresh: true}},
		{2, 1, api.Turns{Queues: []api.Queue{owing(1, 4, 1, 3), queue(2, 2, 1)}, At: 1, Fresh: true}},
		{1, 3, api.Turns{Queues: []api.Queue{queue(1, 4), queue(2, 2, 1)}, At: 1}},
		{2, 1, api.Turns{Queues: []api.Queue{queue(1, 4), queue(2, 2)}}},
	} {
		wantServed(t, q, c.id, c.cost, c.after)
		q, _, _, _ = sched.Next(q)
	}
	wantNobody(t, q, q)
}

func TestNextOfWrongTurns(t *testing.T) {
	for _, c := range wrong() {
		wantNobody(t, c.t, api.Turns{})
	}
}

func TestNextWhereNobodyWaits(t *testing.T) {
	wantNobody(t, api.Turns{}, api.Turns{})
	wantNobody(t, api.Turns{Queues: []api.Queue{}}, api.Turns{})
	for at := range 3 {
		for _, fresh := range []bool{false, true} {
			q := alike(3, queue(0, 5))
			q.At, q.Fresh = at, fresh
			wantNobody(t, q, q)
		}
	}
}

// One waits among others that do not, whosever turn it is.
func TestNextOfOneThatWaits(t *testing.T) {
	for at := range 4 {
		for place := range 4 {
			for _, fresh := range []bool{false, true} {
				q := alike(4, queue(0, 5))
				q.At, q.Fresh = at, fresh
				q.Queues[place].Costs = []int{5, 9}
				after := clone(q)
				after.Queues[place].Costs = []int{9}
				after.At, after.Fresh = place, true
				wantServed(t, q, place, 5, after)

				q.Queues[place].Costs = []int{5}
				after.Queues[place].Costs = nil
				after.At, after.Fresh = (place+1)%4, false
				wantServed(t, q, place, 5, after)
			}
		}
	}
}

// A first cost that is just the deficit, and one above it, by who has been given the quantum and by who gets it.
func TestNextAtTheEdgeOfTheDeficit(t *testing.T) {
	next := queue(2, 7, 7, 1)
	fresh := func(deficit, cost int) api.Turns {
		return api.Turns{Queues: []api.Queue{owing(1, 4, deficit, cost, 8), next}, Fresh: true}
	}
	wantServed(t, fresh(6, 5), 1, 5, api.Turns{Queues: []api.Queue{owing(1, 4, 1, 8), next}, Fresh: true})
	wantServed(t, fresh(6, 6), 1, 6, api.Turns{Queues: []api.Queue{owing(1, 4, 0, 8), next}, Fresh: true})
	wantServed(t, fresh(6, 7), 2, 7, api.Turns{Queues: []api.Queue{owing(1, 4, 6, 7, 8), queue(2, 7, 1)}, At: 1, Fresh: true})

	stale := func(deficit, cost int) api.Turns { q := fresh(deficit, cost); q.Fresh = false; return q }
	wantServed(t, stale(6, 9), 1, 9, api.Turns{Queues: []api.Queue{owing(1, 4, 1, 8), next}, Fresh: true})
	wantServed(t, stale(6, 10), 1, 10, api.Turns{Queues: []api.Queue{owing(1, 4, 0, 8), next}, Fresh: true})
	wantServed(t, stale(6, 11), 2, 7, api.Turns{Queues: []api.Queue{owing(1, 4, 10, 11, 8), queue(2, 7, 1)}, At: 1, Fresh: true})
}

// What is left of the deficit is lost with the last cost, and the turn goes on, from the last place to the first.
func TestNextOfALastCost(t *testing.T) {
	q := api.Turns{Queues: []api.Queue{queue(1, 4, 2), owing(2, 4, 9, 3)}, At: 1, Fresh: true}
	wantServed(t, q, 2, 3, turns(queue(1, 4, 2), queue(2, 4)))
	q.Fresh = false
	wantServed(t, q, 2, 3, turns(queue(1, 4, 2), queue(2, 4)))
	q.At = 0
	wantServed(t, q, 1, 2, api.Turns{Queues: []api.Queue{queue(1, 4), owing(2, 4, 9, 3)}, At: 1})
	wantServed(t, turns(queue(1, 4, 2)), 1, 2, turns(queue(1, 4)))
}

// From the last place the turn goes on to the first, which is given its quantum then.
func TestNextBehindTheLastPlace(t *testing.T) {
	q := api.Turns{Queues: []api.Queue{queue(1, 4, 4, 1), owing(2, 4, 2, 3)}, At: 1, Fresh: true}
	wantServed(t, q, 1, 4, api.Turns{Queues: []api.Queue{queue(1, 4, 1), owing(2, 4, 2, 3)}, At: 0, Fresh: true})
	q.Queues[1] = queue(2, 4)
	wantServed(t, q, 1, 4, api.Turns{Queues: []api.Queue{queue(1, 4, 1), queue(2, 4)}, At: 0, Fresh: true})
}

// Who asks only when its turn has begun already has nothing to spend in this turn.
func TestNextOfAFreshOneThatJustAsked(t *testing.T) {
	q := api.Turns{Queues: []api.Queue{queue(1, 9), queue(2, 4, 4)}, Fresh: true}
	q, _ = sched.Ask(q, 1, 1)
	wantServed(t, q, 2, 4, turns(queue(1, 9, 1), queue(2, 4)))
}

func TestNextOfDearCosts(t *testing.T) {
	wantServed(t, turns(queue(1, 1, 100)), 1, 100, turns(queue(1, 1)))
	wantServed(t, turns(queue(5, 1, maxCost, 1)), 5, maxCost, api.Turns{Queues: []api.Queue{queue(5, 1, 1)}, Fresh: true})
	wantServed(t, turns(queue(5, 7, maxCost, 1)), 5, maxCost, api.Turns{Queues: []api.Queue{owing(5, 7, 3, 1)}, Fresh: true})
	wantServed(t, turns(queue(5, maxQuantum, maxCost, 1)), 5, maxCost, api.Turns{Queues: []api.Queue{queue(5, maxQuantum, 1)}, Fresh: true})
	wantServed(t, turns(owing(5, maxQuantum, maxCost-1, maxCost, 1)), 5, maxCost, api.Turns{Queues: []api.Queue{owing(5, maxQuantum, maxQuantum-1, 1)}, Fresh: true})
	greatest := api.Turns{Queues: []api.Queue{owing(5, 1, maxCost-1+maxQuantum, 1, maxCost)}, Fresh: true}
	wantServed(t, greatest, 5, 1, api.Turns{Queues: []api.Queue{owing(5, 1, maxCost-2+maxQuantum, maxCost)}, Fresh: true})

	q := alike(maxQueues, queue(0, 1, maxCost))
	q.At = 1
	after := alike(maxQueues, owing(0, 1, maxCost-1, maxCost))
	after.Queues[1] = queue(1, 1)
	after.At = 2
	wantServed(t, q, 1, maxCost, after)
}

// Next does not go through the rounds that serve nobody one by one: these calls would take longer than a test may.
func TestNextOfDearCostsEndsSoon(t *testing.T) {
	q := alike(maxQueues, queue(0, 1, maxCost))
	for at := range 20000 {
		q.At = at % maxQueues
		_, id, cost, ok := sched.Next(q)
		if !ok || id != q.At || cost != maxCost {
			t.Fatalf("Next = %d, %d, %v", id, cost, ok)
		}
	}
}

// Of two that are served in the same round it is the one whose turn comes first; of two rounds, the earlier one counts.
func TestNextOfSeveralDearCosts(t *testing.T) {
	list := []api.Queue{queue(1, 10, 95), queue(2, 20, 199), queue(3, 5, 46, 5), queue(4, 1)}
	for at, c := range []struct {
		id, cost int
		after    []api.Queue
		at       int
	}{
		{1, 95, []api.Queue{queue(1, 10), owing(2, 20, 180, 199), owing(3, 5, 45, 46, 5), queue(4, 1)}, 1},
		{2, 199, []api.Queue{owing(1, 10, 90, 95), queue(2, 20), owing(3, 5, 45, 46, 5), queue(4, 1)}, 2},
		{3, 46, []api.Queue{owing(1, 10, 90, 95), owing(2, 20, 180, 199), owing(3, 5, 4, 5), queue(4, 1)}, 2},
		{1, 95, []api.Queue{queue(1, 10), owing(2, 20, 180, 199), owing(3, 5, 45, 46, 5), queue(4, 1)}, 1},
	} {
		wantServed(t, clone(api.Turns{Queues: list, At: at}), c.id, c.cost, api.Turns{Queues: c.after, At: c.at, Fresh: c.id == 3})
	}
}

func TestNextOfSmallTurns(t *testing.T) {
	rounds := map[int]int{}
	small(func(q api.Turns) {
		got, id, cost, ok := sched.Next(q)
		after, i, c, o, passed := slowNext(q)
		if id != i || cost != c || ok != o || !same(got, after) {
			t.Fatalf("Next(%v) = %v, %d, %d, %v, want %v, %d, %d, %v", q, got, id, cost, ok, after, i, c, o)
		}
		rounds[passed/max(len(q.Queues), 1)]++
	})
	for round := range 3 {
		if rounds[round] < 100 {
			t.Error("too few were served so many rounds later", rounds)
		}
	}
}
