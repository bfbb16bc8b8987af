package sched_test

import (
	"fmt"
	"math"
	"testing"

	"chronicle/api"
	"chronicle/sched"
)

// 19.1

func TestCheckOfRightTurns(t *testing.T) {
	for what, q := range map[string]api.Turns{
		"none":                             {},
		"an empty list":                    {Queues: []api.Queue{}},
		"one":                              turns(queue(1, 1)),
		"one with an id of 0":              turns(queue(0, 1)),
		"the greatest id":                  turns(queue(math.MaxInt, 1)),
		"ids that rise":                    turns(queue(0, 1), queue(1, 1), queue(5, 1)),
		"32":                               alike(32, queue(0, 1)),
		"32, the last one's turn":          {Queues: alike(32, queue(0, 1)).Queues, At: 31},
		"a quantum of MaxQuantum":          turns(queue(1, maxQuantum)),
		"a cost of 1":                      turns(queue(1, 1, 1)),
		"a cost of MaxCost":                turns(queue(1, 1, maxCost, maxCost)),
		"a deficit of MaxCost - 1":         turns(owing(1, 1, maxCost-1, 1)),
		"a deficit of 0":                   turns(owing(1, 1, 0, 1)),
		"a deficit above the cost":         turns(owing(1, 1, 50, 1), owing(2, 1, 50, 1)),
		"fresh":                            {Queues: []api.Queue{queue(1, 1)}, Fresh: true},
		"fresh, a deficit of MaxCost":      {Queues: []api.Queue{owing(1, 1, maxCost, 1)}, Fresh: true},
		"fresh, the greatest deficit":      {Queues: []api.Queue{owing(1, 1, maxCost-1+maxQuantum, 1)}, Fresh: true},
		"the second one fresh, likewise":   {Queues: []api.Queue{queue(1, 1), owing(2, 1, maxCost-1+maxQuantum, 1)}, At: 1, Fresh: true},
		"others with MaxCost - 1 likewise": {Queues: []api.Queue{owing(1, 1, maxCost-1, 1), owing(2, 1, maxCost-1, 1), owing(3, 1, maxCost-1, 1)}, At: 1, Fresh: true},
		"At the first":                     three(0, false),
		"At the second":                    three(1, true),
		"At the last":                      three(2, true),
	} {
		want(t, "Check of "+what, sched.Check(q), api.OK)
	}
}

func TestCheckOfWrongTurns(t *testing.T) {
	for what, c := range wrong() {
		want(t, "Check of "+what, sched.Check(c.t), c.errno)
	}
}

// Each number at its edges, at each of three places, with each of them at turn.
func TestCheckAtTheEdges(t *testing.T) {
	type change func(q *api.Queue, n int)
	for what, c := range map[string]struct {
		change change
		list   []int
	}{
		"Id":      {func(q *api.Queue, n int) { q.Id = n }, []int{-1, 0, 1, 9, 10, 11, 19, 20, 21, 29, 30, 31, 40}},
		"Quantum": {func(q *api.Queue, n int) { q.Quantum = n }, []int{-1, 0, 1, 2, maxQuantum - 1, maxQuantum, maxQuantum + 1}},
		"Deficit": {func(q *api.Queue, n int) { q.Deficit = n }, []int{-1, 0, 1, maxCost - 2, maxCost - 1, maxCost, maxCost - 2 + maxQuantum, maxCost - 1 + maxQuantum, maxCost + maxQuantum}},
		"Costs":   {func(q *api.Queue, n int) { q.Costs = append(q.Costs, n) }, []int{-1, 0, 1, 2, maxCost - 1, maxCost, maxCost + 1}},
	} {
		for _, n := range append(c.list, far...) {
			for at := -1; at < 5; at++ {
				for place := range 3 {
					for _, fresh := range []bool{false, true} {
						q := three(at, fresh)
						c.change(&q.Queues[place], n)
						want(t, fmt.Sprintf("Check of %s %d at %d: %v", what, n, place, q), sched.Check(q), slowCheck(q))
					}
				}
			}
		}
	}
}

func TestCheckOfSmallTurns(t *testing.T) {
	seen := map[api.Errno]int{}
	small(func(q api.Turns) {
		e := sched.Check(q)
		seen[e]++
		if e != slowCheck(q) {
			t.Fatalf("Check(%v) = %d", q, e)
		}
	})
	if seen[api.OK] < 1000 || seen[api.ErrQueue] < 1000 {
		t.Error("too few were seen", seen)
	}
}
