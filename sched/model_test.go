package sched_test

import (
	"cmp"
	"slices"

	"chronicle/api"
)

// slowCheck is what 19.1 says, reason by reason.
func slowCheck(t api.Turns) api.Errno {
	n := len(t.Queues)
	if n > maxQueues || n == 0 && (t.At != 0 || t.Fresh) || n > 0 && (t.At < 0 || t.At > n-1) {
		return api.ErrQueue
	}
	for i, q := range t.Queues {
		fresh := i == t.At && t.Fresh
		switch {
		case i == 0 && q.Id < 0, i > 0 && q.Id <= t.Queues[i-1].Id:
			return api.ErrQueue
		case q.Quantum < 1, q.Quantum > maxQuantum:
			return api.ErrQueue
		case q.Deficit < 0, !fresh && q.Deficit > maxCost-1, fresh && q.Deficit > maxCost-1+maxQuantum:
			return api.ErrQueue
		case len(q.Costs) == 0 && q.Deficit > 0:
			return api.ErrQueue
		}
	}
	for _, q := range t.Queues {
		for _, cost := range q.Costs {
			if cost < 1 || cost > maxCost {
				return api.ErrCost
			}
		}
	}
	return api.OK
}

// placeOf is the place of the queue with an id; -1: there is none.
func placeOf(t api.Turns, id int) int {
	return slices.IndexFunc(t.Queues, func(q api.Queue) bool { return q.Id == id })
}

// slowEnter is what 19.2 says of Enter: the turn is found again by the id of who had it.
func slowEnter(t api.Turns, id, quantum int) (api.Turns, api.Errno) {
	if e := slowCheck(t); e != api.OK {
		return api.Turns{}, e
	}
	if placeOf(t, id) >= 0 || len(t.Queues) >= maxQueues || id < 0 || quantum < 1 || quantum > maxQuantum {
		return api.Turns{}, api.ErrQueue
	}
	turn := id
	if len(t.Queues) > 0 {
		turn = t.Queues[t.At].Id
	}
	t = clone(t)
	t.Queues = append(t.Queues, api.Queue{Id: id, Quantum: quantum})
	slices.SortFunc(t.Queues, func(a, b api.Queue) int { return cmp.Compare(a.Id, b.Id) })
	t.At = placeOf(t, turn)
	return t, api.OK
}

// slowLeave is what 19.2 says of Leave.
func slowLeave(t api.Turns, id int) (api.Turns, api.Errno) {
	if e := slowCheck(t); e != api.OK {
		return api.Turns{}, e
	}
	place := placeOf(t, id)
	if place < 0 {
		return api.Turns{}, api.ErrQueue
	}
	t = clone(t)
	turn := t.Queues[t.At].Id
	if turn == id {
		turn = t.Queues[(place+1)%len(t.Queues)].Id
		t.Fresh = false
	}
	t.Queues = append(t.Queues[:place], t.Queues[place+1:]...)
	t.At = max(placeOf(t, turn), 0)
	return t, api.OK
}

// slowAsk is what 19.2 says of Ask.
func slowAsk(t api.Turns, id, cost int) (api.Turns, api.Errno) {
	if e := slowCheck(t); e != api.OK {
		return api.Turns{}, e
	}
	place := placeOf(t, id)
	if place < 0 {
		return api.Turns{}, api.ErrQueue
	}
	if cost < 1 || cost > maxCost {
		return api.Turns{}, api.ErrCost
	}
	t = clone(t)
	t.Queues[place].Costs = append(t.Queues[place].Costs, cost)
	return t, api.OK
}

// slowNext is what 19.3 says, turn by turn; it tells also how many turns went on ahead of the one who is served.
func slowNext(t api.Turns) (after api.Turns, id, cost int, ok bool, passed int) {
	if slowCheck(t) != api.OK {
		return api.Turns{}, 0, 0, false, 0
	}
	t = clone(t)
	if !slices.ContainsFunc(t.Queues, func(q api.Queue) bool { return len(q.Costs) > 0 }) {
		return t, 0, 0, false, 0
	}
	for {
		q := &t.Queues[t.At]
		if len(q.Costs) > 0 && !t.Fresh {
			q.Deficit += q.Quantum
			t.Fresh = true
		}
		if len(q.Costs) > 0 && q.Costs[0] <= q.Deficit {
			break
		}
		t.At, t.Fresh = (t.At+1)%len(t.Queues), false
		passed++
	}
	q := &t.Queues[t.At]
	cost = q.Costs[0]
	q.Deficit -= cost
	q.Costs = append([]int(nil), q.Costs[1:]...)
	if len(q.Costs) == 0 {
		q.Deficit = 0
		t.At, t.Fresh = (t.At+1)%len(t.Queues), false
	}
	return t, q.Id, cost, true, passed
}

// slowClass is what 19.4 says.
func slowClass(waits [4]int, work [4]bool, pick int) ([4]int, int) {
	if work == [4]bool{} {
		return [4]int{}, -1
	}
	for k := range waits {
		if waits[k] < 0 {
			waits[k] = 0
		}
		if waits[k] > patience {
			waits[k] = patience
		}
	}
	served := -1
	for n := patience; n >= patience-3; n-- {
		for k := range 4 {
			if served < 0 && work[k] && waits[k] == n {
				served = k
			}
		}
	}
	if served < 0 {
		for served = pick & 3; !work[served]; served = (served + 1) & 3 {
		}
	}
	for k := range waits {
		if k == served || !work[k] {
			waits[k] = 0
		} else {
			waits[k]++
		}
	}
	return waits, served
}
