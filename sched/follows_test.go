package sched_test

import (
	"slices"
	"testing"

	"chronicle/api"
	"chronicle/probe"
	"chronicle/sched"
)

// kind is how much queues are given and ask for.
type kind struct{ quantum, cost int }

var kinds = []kind{{1, 1}, {1, 9}, {5, 40}, {40, 5}, {300, 300}, {maxQuantum, 1}, {maxQuantum, maxCost}, {3, maxCost}}

// crowd is n queues with numbers up to those of a kind, and costs that last for a while; some begin with a deficit, and it is anyone's turn, fresh or not.
func crowd(seed uint64, n int, k kind, costs int) api.Turns {
	noise := probe.Noise(seed, n*(costs+2)+2)
	below := func(m int) int {
		x := noise[0]
		noise = noise[1:]
		return int(x>>11) % m
	}
	t := api.Turns{At: below(n), Fresh: below(2) == 0}
	for id := range n {
		q := queue(id, 1+below(k.quantum))
		q.Deficit = max(0, below(2*k.cost)-k.cost)
		for range costs {
			q.Costs = append(q.Costs, 1+below(k.cost))
		}
		t.Queues = append(t.Queues, q)
	}
	return t
}

// bound is the one of fairness for two queues, with C the greatest cost or first deficit.
func bound(a, b api.Queue, c int) int {
	return 3*a.Quantum*b.Quantum + c*(a.Quantum+b.Quantum)
}

// greatest is the greatest of all costs and deficits.
func greatest(t api.Turns) int {
	c := 0
	for _, q := range t.Queues {
		c = max(c, q.Deficit, slices.Max(append(q.Costs, 0)))
	}
	return c
}

// What follows: fairness. From each call on, up to each later one, all pairs that wait all along.
func TestFairness(t *testing.T) {
	pairs := 0
	for i, k := range kinds {
		for seed := range uint64(6) {
			q := crowd(seed+10*uint64(i)+1, 2+int(seed), k, 40)
			for range 12 {
				pairs += wantFair(t, q, 120)
				q, _, _, _ = sched.Next(q)
			}
		}
	}
	if pairs < 10000 {
		t.Error("too few pairs were looked at:", pairs)
	}
}

// wantFair fails unless what each two are served of keeps within the bound, as long as they wait; it answers how many pairs it looked at.
func wantFair(t *testing.T, q api.Turns, calls int) int {
	t.Helper()
	c, pairs := greatest(q), 0
	served := make([]int, len(q.Queues))
	for range calls {
		after, id, cost, ok := sched.Next(q)
		if !ok {
			break
		}
		served[id] += cost
		for i, a := range after.Queues {
			for j, b := range after.Queues[:i] {
				if len(a.Costs) == 0 || len(b.Costs) == 0 {
					continue
				}
				pairs++
				if apart := served[i]*b.Quantum - served[j]*a.Quantum; max(apart, -apart) > bound(a, b, c) {
					t.Fatalf("%v: the queues %d and %d were served of %d and %d", q, i, j, served[i], served[j])
				}
			}
		}
		q = after
	}
	return pairs
}

// Who asks for dear things gets no more than who asks for cheap ones, and each by its quantum.
func TestDearAndCheapAreServedAlike(t *testing.T) {
	q := turns(queue(1, 10), queue(2, 10), queue(3, 20))
	for i, cost := range []int{100, 1, 7} {
		q.Queues[i].Costs = slices.Repeat([]int{cost}, 4000)
	}
	served := map[int]int{}
	for served[1] < 1000 {
		var id, cost int
		q, id, cost, _ = sched.Next(q)
		served[id] += cost
	}
	if served[2] < 980 || served[2] > 1020 || served[3] < 1960 || served[3] > 2040 {
		t.Error("served are", served)
	}
}

// What follows: nobody starves, whatever the others ask in between.
func TestNobodyStarves(t *testing.T) {
	most := 0
	for i, k := range []kind{{1, 1}, {1, 9}, {5, 40}, {40, 5}, {3, 1000}, {maxQuantum, maxCost}} {
		for seed := range uint64(8) {
			for _, costs := range []int{1, 3} {
				q := crowd(seed+10*uint64(i)+1, 1+int(seed), k, costs)
				for id := range q.Queues {
					most = max(most, wantServedInTime(t, q, id, 1+k.quantum/30))
				}
			}
		}
	}
	if most < 20 {
		t.Error("nobody waited for long:", most)
	}
}

// wantServedInTime fails unless a queue is served within the calls that are told ahead, while the others ask for something cheap whenever they are served; it answers how many calls it took.
func wantServedInTime(t *testing.T, q api.Turns, id, cheap int) int {
	t.Helper()
	all := 0
	r := q.Queues[id].Costs[0]/q.Queues[id].Quantum + 2
	for _, other := range q.Queues {
		all += r*other.Quantum + other.Deficit
	}
	for calls := 1; calls <= all; calls++ {
		var who int
		q, who, _, _ = sched.Next(q)
		if who == id {
			return calls
		}
		q, _ = sched.Ask(q, who, cheap)
	}
	t.Fatalf("the queue %d was not served within %d calls", id, all)
	return all
}

// What follows: each cost is served once, in the order in which it was asked for, and nothing else is.
func TestCostsAreServedInOrder(t *testing.T) {
	for seed := range uint64(20) {
		var q api.Turns
		asked, served := map[int][]int{}, map[int][]int{}
		for id := range 5 {
			q, _ = sched.Enter(q, id, 3+7*id)
		}
		next := func() bool {
			var id, cost int
			var ok bool
			q, id, cost, ok = sched.Next(q)
			if ok {
				served[id] = append(served[id], cost)
			}
			return ok
		}
		for _, x := range probe.Noise(seed+1, 400) {
			id, cost := int(x>>11)%5, 1+int(x>>20)%90
			q, _ = sched.Ask(q, id, cost)
			asked[id] = append(asked[id], cost)
			if x>>40&1 == 0 {
				next()
			}
		}
		for next() {
		}
		for id := range 5 {
			if !slices.Equal(asked[id], served[id]) {
				t.Fatalf("the queue %d asked for %v and was served %v", id, asked[id], served[id])
			}
		}
	}
}

// What follows: no class is passed by more than Patience times in a row. All Waits that may be are looked at, with all work and all picks from there on.
func TestNoClassIsPassedByForLong(t *testing.T) {
	longest := 0
	for class := range 4 {
		p := passing{class: class, known: make([]int8, 18*18*18*18)}
		for i := range 17 * 17 * 17 * 17 {
			longest = max(longest, p.longest([4]int{i % 17, i / 17 % 17, i / 17 / 17 % 17, i / 17 / 17 / 17}))
		}
	}
	if longest > patience || longest < patience-3 {
		t.Error("passed by at most", longest)
	}
}

type passing struct {
	class int
	known []int8 // by Waits: 1 and how often in a row the class can be passed by from there on; 0, if that is not known yet
}

func (p *passing) longest(waits [4]int) int {
	place := ((waits[0]*18+waits[1])*18+waits[2])*18 + waits[3]
	if n := p.known[place]; n > 0 {
		return int(n) - 1
	}
	n := 0
	for _, work := range works() {
		if !work[p.class] {
			continue
		}
		for pick := range 4 {
			if after, served := sched.Class(api.Classes{Waits: waits}, work, pick); served != p.class {
				n = max(n, 1+p.longest(after.Waits))
			}
		}
	}
	p.known[place] = int8(n + 1)
	return n
}
