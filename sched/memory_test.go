package sched_test

import (
	"testing"

	"chronicle/api"
	"chronicle/probe"
	"chronicle/sched"
)

// calls is every call that takes turns and answers some, in all of its cases.
func calls() map[string]func(t api.Turns) api.Turns {
	first := func(t api.Turns, _ api.Errno) api.Turns { return t }
	return map[string]func(t api.Turns) api.Turns{
		"Enter ahead of all":  func(t api.Turns) api.Turns { return first(sched.Enter(t, 0, 4)) },
		"Enter between two":   func(t api.Turns) api.Turns { return first(sched.Enter(t, 15, 4)) },
		"Enter behind all":    func(t api.Turns) api.Turns { return first(sched.Enter(t, 40, 4)) },
		"Enter of one":        func(t api.Turns) api.Turns { return first(sched.Enter(t, 20, 4)) },
		"Leave of the first":  func(t api.Turns) api.Turns { return first(sched.Leave(t, 10)) },
		"Leave of the second": func(t api.Turns) api.Turns { return first(sched.Leave(t, 20)) },
		"Leave of the last":   func(t api.Turns) api.Turns { return first(sched.Leave(t, 30)) },
		"Leave of none":       func(t api.Turns) api.Turns { return first(sched.Leave(t, 40)) },
		"Ask of the first":    func(t api.Turns) api.Turns { return first(sched.Ask(t, 10, 5)) },
		"Ask of the last":     func(t api.Turns) api.Turns { return first(sched.Ask(t, 30, 5)) },
		"Ask of none":         func(t api.Turns) api.Turns { return first(sched.Ask(t, 40, 5)) },
		"Next":                func(t api.Turns) api.Turns { t, _, _, _ = sched.Next(t); return t },
		"Check":               func(t api.Turns) api.Turns { sched.Check(t); return api.Turns{} },
	}
}

// lists is turns for these calls: right ones and wrong ones.
func lists() []api.Turns {
	list := []api.Turns{
		{}, turns(queue(20, 3)), turns(queue(20, 3, 1)), turns(queue(20, 3, 1, 2, 3)), turns(queue(20, 3, 99, 2, 3)),
		alike(32, queue(0, 1, 2, 3)), alike(33, queue(0, 1, 2, 3)), turns(queue(10, 1, 2, 3, 0)), turns(queue(10, 0, 1, 2)),
		turns(queue(10, 1), queue(20, 1), queue(30, 1)),
	}
	for at := range 3 {
		list = append(list, three(at, false), three(at, true))
	}
	return list
}

// oneMemory is the same turns with all their lists behind one another in one memory, and room behind each, and a check that nothing of it was changed.
func oneMemory(t api.Turns) (api.Turns, func() bool) {
	odd := owing(-5, -6, -7, -8)
	queues := append(clone(t).Queues, odd, odd)
	var checks []func() bool
	for i := range queues {
		costs, check := probe.Spare(queues[i].Costs, -77)
		queues[i].Costs = costs
		checks = append(checks, check)
	}
	whole := api.Turns{Queues: queues}
	kept := clone(whole)
	t.Queues = queues[:len(t.Queues)]
	return t, func() bool {
		for _, check := range checks {
			if !check() {
				return false
			}
		}
		return same(whole, kept)
	}
}

// scribble writes over all that turns have, and over the room behind the ends of their lists.
func scribble(t api.Turns) {
	for i := range t.Queues {
		probe.Scribble(append(t.Queues[i].Costs, 99))
		probe.Scribble(t.Queues[i].Costs)
	}
	probe.Scribble(append(t.Queues, owing(1, 2, 3, 4)))
	probe.Scribble(t.Queues)
}

// 19.5

func TestTurnsHandedInAreNotChanged(t *testing.T) {
	for what, call := range calls() {
		for _, l := range lists() {
			q, unchanged := oneMemory(l)
			after := call(q)
			if !unchanged() {
				t.Errorf("%s of %v: it is changed, or what is behind it", what, l)
			}
			scribble(after)
			if !unchanged() {
				t.Errorf("%s of %v: the answer is of its memory", what, l)
			}
		}
	}
}

func TestTurnsHandedInAreNotKept(t *testing.T) {
	for what, call := range calls() {
		for _, l := range lists() {
			q, _ := oneMemory(l)
			after := call(q)
			kept := clone(after)
			scribble(q)
			if !same(after, kept) {
				t.Errorf("%s of %v: the answer is another behind a change of what was handed in", what, l)
			}
			if again := call(clone(l)); !same(again, kept) {
				t.Errorf("%s of %v = %v, and then %v", what, l, kept, again)
			}
		}
	}
}

func TestAnswersAreNewMemory(t *testing.T) {
	for what, call := range calls() {
		for _, l := range lists() {
			first, second := call(l), call(l)
			kept := clone(second)
			scribble(first)
			if !same(second, kept) || !same(call(l), kept) {
				t.Errorf("%s of %v: an answer is another behind a change of an earlier one", what, l)
			}
		}
	}
}

// Each list of an answer is written over, with all of its room, by a number of its own; then each still has its own.
func TestListsOfAnAnswerShareNothing(t *testing.T) {
	for what, call := range calls() {
		for _, l := range lists() {
			one := call(l)
			for i := range one.Queues {
				costs := one.Queues[i].Costs
				costs = costs[:cap(costs)]
				for k := range costs {
					costs[k] = 1000 + i
				}
			}
			for i := range one.Queues {
				costs := one.Queues[i].Costs
				for _, cost := range costs[:cap(costs)] {
					if cost != 1000+i {
						t.Fatalf("%s of %v: two lists of the answer share memory", what, l)
					}
				}
			}
		}
	}
}

// What is handed in may have its lists in one memory, each the room behind the one ahead of it.
func TestListsThatShareAreNotMixedUp(t *testing.T) {
	costs := []int{1, 2, 3, 4}
	q := turns(api.Queue{Id: 1, Quantum: 9, Costs: costs[:2]}, api.Queue{Id: 2, Quantum: 9, Costs: costs[1:3]}, api.Queue{Id: 3, Quantum: 9, Costs: costs[3:]})
	got, e := sched.Ask(q, 1, 7)
	wantTurns(t, "Ask", got, e, turns(queue(1, 9, 1, 2, 7), queue(2, 9, 2, 3), queue(3, 9, 4)))
	got, e = sched.Ask(q, 2, 8)
	wantTurns(t, "Ask", got, e, turns(queue(1, 9, 1, 2), queue(2, 9, 2, 3, 8), queue(3, 9, 4)))
	wantServed(t, q, 1, 1, api.Turns{Queues: []api.Queue{owing(1, 9, 8, 2), queue(2, 9, 2, 3), queue(3, 9, 4)}, Fresh: true})
}
