package sched_test

import (
	"fmt"
	"math"
	"slices"
	"testing"

	"chronicle/api"
	"chronicle/sched"
)

// The bounds, as the document tells them.
const (
	maxQueues  = 32
	maxCost    = 1048576
	maxQuantum = 65536
	patience   = 16
)

// far is numbers that lie outside of all ranges.
var far = []int{math.MinInt, math.MinInt + 1, -maxCost, -1, math.MaxInt - 1, math.MaxInt}

// queue is one without a deficit.
func queue(id, quantum int, costs ...int) api.Queue {
	return api.Queue{Id: id, Quantum: quantum, Costs: costs}
}

// owing is one with a deficit.
func owing(id, quantum, deficit int, costs ...int) api.Queue {
	return api.Queue{Id: id, Quantum: quantum, Deficit: deficit, Costs: costs}
}

// turns is queues of which the first one's turn it is, not fresh.
func turns(queues ...api.Queue) api.Turns { return api.Turns{Queues: queues} }

// three is queues with ids that have room ahead of them, between them and behind them; the middle one has two costs.
func three(at int, fresh bool) api.Turns {
	return api.Turns{Queues: []api.Queue{queue(10, 4, 7), owing(20, 5, 3, 9, 2), queue(30, 6)}, At: at, Fresh: fresh}
}

// alike is n queues with ids from 0 on.
func alike(n int, q api.Queue) api.Turns {
	var t api.Turns
	for id := range n {
		q.Id = id
		q.Costs = slices.Clone(q.Costs)
		t.Queues = append(t.Queues, q)
	}
	return t
}

// clone is the same turns in memory of their own.
func clone(t api.Turns) api.Turns {
	t.Queues = slices.Clone(t.Queues)
	for i := range t.Queues {
		t.Queues[i].Costs = slices.Clone(t.Queues[i].Costs)
	}
	return t
}

func same(a, b api.Turns) bool {
	return a.At == b.At && a.Fresh == b.Fresh && slices.EqualFunc(a.Queues, b.Queues, sameQueue)
}

func sameQueue(a, b api.Queue) bool {
	return a.Id == b.Id && a.Quantum == b.Quantum && a.Deficit == b.Deficit && slices.Equal(a.Costs, b.Costs)
}

func want[T comparable](t *testing.T, what string, got, want T) {
	t.Helper()
	if got != want {
		t.Errorf("%s = %v, want %v", what, got, want)
	}
}

// wantTurns fails unless these turns were answered, and no error.
func wantTurns(t *testing.T, what string, got api.Turns, errno api.Errno, turns api.Turns) {
	t.Helper()
	if errno != api.OK || !same(got, turns) {
		t.Errorf("%s = %v, %d, want %v", what, got, errno, turns)
	}
}

// wantError fails unless just this error was answered.
func wantError(t *testing.T, what string, got api.Turns, errno, wanted api.Errno) {
	t.Helper()
	if errno != wanted || !same(got, api.Turns{}) {
		t.Errorf("%s = %v, %d, want none, %d", what, got, errno, wanted)
	}
}

// wantServed fails unless Next serves this queue and leaves these turns.
func wantServed(t *testing.T, q api.Turns, id, cost int, after api.Turns) {
	t.Helper()
	got, i, c, ok := sched.Next(q)
	if !ok || i != id || c != cost || !same(got, after) {
		t.Errorf("Next(%v) = %v, %d, %d, %v, want %v, %d, %d", q, got, i, c, ok, after, id, cost)
	}
}

// wantNobody fails unless Next serves nobody and leaves these turns.
func wantNobody(t *testing.T, q, after api.Turns) {
	t.Helper()
	got, id, cost, ok := sched.Next(q)
	if ok || id != 0 || cost != 0 || !same(got, after) {
		t.Errorf("Next(%v) = %v, %d, %d, %v, want %v and nobody", q, got, id, cost, ok, after)
	}
}

// small calls do with all turns of up to three queues with small numbers that may be, and with some that may not.
func small(do func(t api.Turns)) {
	var queues []api.Queue
	var next func(n int)
	next = func(n int) {
		for at := -1; at <= n; at++ {
			do(clone(api.Turns{Queues: queues, At: at}))
			do(clone(api.Turns{Queues: queues, At: at, Fresh: true}))
		}
		if n == 3 {
			return
		}
		for quantum := range 2 {
			for deficit := range 3 {
				for _, costs := range [][]int{nil, {1}, {3, 1}, {2, 2}} {
					queues = append(queues, owing(2*n+1, quantum+1, deficit, costs...))
					next(n + 1)
					queues = queues[:n]
				}
			}
		}
	}
	next(0)
}

// refused is turns that Check refuses, and its error.
type refused struct {
	t     api.Turns
	errno api.Errno
}

// wrong is turns that Check refuses, each for one reason, and at the end for two.
func wrong() map[string]refused {
	list := map[string]refused{}
	add := func(what string, errno api.Errno, t api.Turns) { list[what] = refused{t, errno} }
	addWrongQueues(func(what string, t api.Turns) { add(what, api.ErrQueue, t) })
	for _, cost := range append(far, 0, maxCost+1) {
		add(fmt.Sprint("the only cost ", cost), api.ErrCost, turns(queue(1, 1, cost)))
		add(fmt.Sprint("the last cost ", cost), api.ErrCost, turns(queue(1, 1, 2), queue(2, 1), queue(3, 1, 5, 6, cost)))
		add(fmt.Sprint("the first cost ", cost), api.ErrCost, turns(queue(1, 1, cost, 5, 6), queue(2, 1, 2)))
		add(fmt.Sprint("an amid cost ", cost), api.ErrCost, turns(queue(1, 1), queue(2, 1, 5, cost, 6), queue(3, 1)))
	}
	return list
}

func addWrongQueues(add func(what string, t api.Turns)) {
	add("33 queues", alike(33, queue(0, 1)))
	add("a first id of -1", turns(queue(-1, 1)))
	add("a far id", turns(queue(math.MinInt, 1), queue(1, 1)))
	add("equal ids", turns(queue(0, 1), queue(0, 1)))
	add("ids that fall", turns(queue(1, 1), queue(0, 1)))
	add("last ids that are equal", turns(queue(1, 1), queue(2, 1), queue(2, 1)))
	add("last ids that fall", turns(queue(1, 1), queue(3, 1), queue(2, 1)))
	add("a second id of -1", turns(queue(0, 1), queue(-1, 1)))
	for _, n := range append(far, 0, maxQuantum+1) {
		add(fmt.Sprint("the first quantum ", n), turns(queue(1, n), queue(2, 1)))
		add(fmt.Sprint("the last quantum ", n), turns(queue(1, 1), queue(2, n)))
	}
	for _, n := range append(far, maxCost, maxCost+maxQuantum) {
		add(fmt.Sprint("a deficit at At of ", n), turns(owing(1, 1, n, 1)))
		add(fmt.Sprint("a deficit elsewhere of ", n), turns(queue(1, 1), owing(2, 1, n, 1)))
	}
	for _, n := range append(far, maxCost) {
		add(fmt.Sprint("a deficit behind a fresh one of ", n), api.Turns{Queues: []api.Queue{queue(1, 1, 1), owing(2, 1, n, 1)}, Fresh: true})
		add(fmt.Sprint("a deficit ahead of a fresh one of ", n), api.Turns{Queues: []api.Queue{owing(1, 1, n, 1), queue(2, 1, 1)}, At: 1, Fresh: true})
	}
	for _, n := range append(far, maxCost+maxQuantum) {
		add(fmt.Sprint("a fresh deficit of ", n), api.Turns{Queues: []api.Queue{owing(1, 1, n, 1)}, Fresh: true})
	}
	for _, n := range append(far, 1, maxCost-1) {
		add(fmt.Sprint("nothing waits, and a deficit of ", n), turns(queue(1, 1, 4), owing(2, 1, n)))
		add(fmt.Sprint("nothing waits, and a fresh deficit of ", n), api.Turns{Queues: []api.Queue{owing(2, 1, n)}, Fresh: true})
	}
	for _, at := range append(far, 1, 2) {
		add(fmt.Sprint("no queues and At ", at), api.Turns{At: at})
	}
	for _, at := range append(far, 3, 4) {
		add(fmt.Sprint("At ", at), three(at, false))
		add(fmt.Sprint("fresh, and At ", at), three(at, true))
	}
	add("fresh without queues", api.Turns{Fresh: true})
	add("fresh with an empty list", api.Turns{Queues: []api.Queue{}, Fresh: true})
	add("a cost and a later quantum that may not be", turns(queue(1, 1, 0), queue(2, 0, 4)))
	add("a cost and a later id that may not be", turns(queue(1, 1, 0), queue(1, 1, 4)))
	add("a cost and a deficit that may not be", turns(owing(1, 1, -1, 0)))
	add("a cost and an At that may not be", api.Turns{Queues: []api.Queue{queue(1, 1, 0)}, At: 1})
	add("a cost that may not be and 33 queues", alike(33, queue(0, 1, 0)))
}
