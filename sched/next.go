package sched

import (
	"slices"

	"chronicle/api"
)

// Next tells who is served, and the cost; false: nobody waits.
func Next(t api.Turns) (api.Turns, int, int, bool) {
	if Check(t) != api.OK {
		return api.Turns{}, 0, 0, false
	}
	t.Queues = copyOf(t.Queues)
	if !slices.ContainsFunc(t.Queues, waits) {
		return t, 0, 0, false
	}
	id, cost := serve(&t)
	return t, id, cost, true
}

// serve goes on from turn to turn till a queue is served. One of them has to wait.
func serve(t *api.Turns) (id, cost int) {
	passed := 0
queues:
	for {
		if passed == len(t.Queues) {
			skipRounds(t.Queues)
		}
		passed++
		q := &t.Queues[t.At]
		switch {
		case !waits(*q):
			giveTurn(t, t.At+1)
			continue queues
		case !t.Fresh:
			q.Deficit += q.Quantum
			t.Fresh = true
		}
		if q.Costs[0] > q.Deficit {
			giveTurn(t, t.At+1)
			continue queues
		}
		return q.Id, spend(t, q)
	}
}

// spend takes the first cost off the queue whose turn it is.
func spend(t *api.Turns, q *api.Queue) int {
	cost := q.Costs[0]
	q.Costs = q.Costs[1:]
	q.Deficit -= cost
	if !waits(*q) {
		q.Deficit = 0
		giveTurn(t, t.At+1)
	}
	return cost
}

// skipRounds gives all that wait at once what they get in the rounds that serve nobody, so that in the next round one is served. Gone through one by one, these may be as many as the greatest cost.
func skipRounds(queues []api.Queue) {
	idle := api.MaxCost
	for _, q := range queues {
		if waits(q) {
			missing := q.Costs[0] - q.Deficit
			idle = min(idle, (missing-1)/q.Quantum)
		}
	}
	for i := range queues {
		if waits(queues[i]) {
			queues[i].Deficit += idle * queues[i].Quantum
		}
	}
}
