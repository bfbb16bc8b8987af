package sched_test

import (
	"fmt"
	"math"
	"testing"

	"chronicle/api"
	"chronicle/sched"
)

// 19.2

func TestEnterOfTheFirst(t *testing.T) {
	for _, q := range []api.Turns{{}, {Queues: []api.Queue{}}, {Queues: make([]api.Queue, 0, 5)}} {
		for _, id := range []int{0, 1, 7, math.MaxInt} {
			got, e := sched.Enter(q, id, 4)
			wantTurns(t, "Enter of the first", got, e, turns(queue(id, 4)))
		}
	}
}

// Ahead of all, between two, behind all; ahead of, at and behind the place whose turn it is.
func TestEnterAtAllPlaces(t *testing.T) {
	for _, fresh := range []bool{false, true} {
		for at := range 3 {
			q := three(at, fresh)
			first, amid, last := q.Queues[0], q.Queues[1], q.Queues[2]
			for _, c := range []struct {
				id     int
				queues []api.Queue
				at     int
			}{
				{0, []api.Queue{queue(0, 8), first, amid, last}, at + 1},
				{9, []api.Queue{queue(9, 8), first, amid, last}, at + 1},
				{11, []api.Queue{first, queue(11, 8), amid, last}, [3]int{0, 2, 3}[at]},
				{19, []api.Queue{first, queue(19, 8), amid, last}, [3]int{0, 2, 3}[at]},
				{21, []api.Queue{first, amid, queue(21, 8), last}, [3]int{0, 1, 3}[at]},
				{29, []api.Queue{first, amid, queue(29, 8), last}, [3]int{0, 1, 3}[at]},
				{31, []api.Queue{first, amid, last, queue(31, 8)}, at},
				{math.MaxInt, []api.Queue{first, amid, last, queue(math.MaxInt, 8)}, at},
			} {
				got, e := sched.Enter(q, c.id, 8)
				wantTurns(t, fmt.Sprintf("Enter of %d, At %d", c.id, at), got, e, api.Turns{Queues: c.queues, At: c.at, Fresh: fresh})
			}
		}
	}
}

func TestEnterWithAQuantum(t *testing.T) {
	for _, n := range []int{1, 2, maxQuantum - 1, maxQuantum} {
		got, e := sched.Enter(turns(queue(5, 1)), 6, n)
		wantTurns(t, "Enter", got, e, turns(queue(5, 1), queue(6, n)))
	}
	for _, n := range append(far, 0, maxQuantum+1) {
		got, e := sched.Enter(turns(queue(5, 1)), 6, n)
		wantError(t, "Enter", got, e, api.ErrQueue)
		got, e = sched.Enter(api.Turns{}, 6, n)
		wantError(t, "Enter of the first", got, e, api.ErrQueue)
	}
}

func TestEnterThatMayNotBe(t *testing.T) {
	for _, id := range []int{10, 20, 30, -1, -2, math.MinInt} {
		for at := range 3 {
			got, e := sched.Enter(three(at, true), id, 1)
			wantError(t, fmt.Sprint("Enter of ", id), got, e, api.ErrQueue)
		}
	}
	got, e := sched.Enter(api.Turns{}, -1, 1)
	wantError(t, "Enter of -1", got, e, api.ErrQueue)
}

func TestEnterOfThe32ndAndThe33rd(t *testing.T) {
	got, e := sched.Enter(alike(31, queue(0, 1)), 31, 1)
	wantTurns(t, "Enter of the 32nd", got, e, alike(32, queue(0, 1)))
	got, e = sched.Enter(got, 32, 1)
	wantError(t, "Enter of the 33rd", got, e, api.ErrQueue)
	got, e = sched.Enter(api.Turns{Queues: alike(32, queue(0, 1)).Queues[1:], At: 4, Fresh: true}, 0, 1)
	wantTurns(t, "Enter of the 32nd, ahead of all", got, e, api.Turns{Queues: alike(32, queue(0, 1)).Queues, At: 5, Fresh: true})
}

// The one that leaves is ahead of, at and behind the place whose turn it is.
func TestLeaveOfAllPlaces(t *testing.T) {
	for _, fresh := range []bool{false, true} {
		q := three(0, fresh)
		first, amid, last := q.Queues[0], q.Queues[1], q.Queues[2]
		for _, c := range []struct {
			at, id int
			after  api.Turns
		}{
			{0, 10, api.Turns{Queues: []api.Queue{amid, last}}},
			{0, 20, api.Turns{Queues: []api.Queue{first, last}, Fresh: fresh}},
			{0, 30, api.Turns{Queues: []api.Queue{first, amid}, Fresh: fresh}},
			{1, 10, api.Turns{Queues: []api.Queue{amid, last}, Fresh: fresh}},
			{1, 20, api.Turns{Queues: []api.Queue{first, last}, At: 1}},
			{1, 30, api.Turns{Queues: []api.Queue{first, amid}, At: 1, Fresh: fresh}},
			{2, 10, api.Turns{Queues: []api.Queue{amid, last}, At: 1, Fresh: fresh}},
			{2, 20, api.Turns{Queues: []api.Queue{first, last}, At: 1, Fresh: fresh}},
			{2, 30, api.Turns{Queues: []api.Queue{first, amid}, At: 0}},
		} {
			got, e := sched.Leave(three(c.at, fresh), c.id)
			wantTurns(t, fmt.Sprintf("Leave of %d, At %d, %v", c.id, c.at, fresh), got, e, c.after)
		}
	}
}

func TestLeaveOfTheOnlyOne(t *testing.T) {
	for _, fresh := range []bool{false, true} {
		got, e := sched.Leave(api.Turns{Queues: []api.Queue{owing(4, 1, 3, 5)}, Fresh: fresh}, 4)
		wantTurns(t, "Leave of the only one", got, e, api.Turns{})
	}
}

// A queue that has more than any other may have takes it away with it.
func TestLeaveWithTheGreatestDeficit(t *testing.T) {
	q := api.Turns{Queues: []api.Queue{queue(1, 1, 2), owing(4, 1, maxCost-1+maxQuantum, 5)}, At: 1, Fresh: true}
	got, e := sched.Leave(q, 4)
	wantTurns(t, "Leave", got, e, turns(queue(1, 1, 2)))
	got, e = sched.Leave(q, 1)
	wantTurns(t, "Leave", got, e, api.Turns{Queues: q.Queues[1:], Fresh: true})
}

func TestLeaveOfNone(t *testing.T) {
	for _, id := range append(far, 0, 9, 11, 25, 31) {
		got, e := sched.Leave(three(1, true), id)
		wantError(t, fmt.Sprint("Leave of ", id), got, e, api.ErrQueue)
		got, e = sched.Leave(api.Turns{}, id)
		wantError(t, fmt.Sprint("Leave without queues of ", id), got, e, api.ErrQueue)
	}
}

func TestAsk(t *testing.T) {
	for _, fresh := range []bool{false, true} {
		for at := range 3 {
			for _, cost := range []int{1, 2, 9, maxCost - 1, maxCost} {
				for place, id := range []int{10, 20, 30} {
					after := three(at, fresh)
					after.Queues[place].Costs = append(after.Queues[place].Costs, cost)
					got, e := sched.Ask(three(at, fresh), id, cost)
					wantTurns(t, fmt.Sprintf("Ask of %d, %d", id, cost), got, e, after)
				}
			}
		}
	}
}

func TestAskThatMayNotBe(t *testing.T) {
	for _, cost := range append(far, 0, maxCost+1) {
		got, e := sched.Ask(three(0, true), 20, cost)
		wantError(t, fmt.Sprint("Ask of the cost ", cost), got, e, api.ErrCost)
		got, e = sched.Ask(three(0, true), 21, cost)
		wantError(t, fmt.Sprint("Ask of none with the cost ", cost), got, e, api.ErrQueue)
	}
	for _, id := range append(far, 0, 9, 11, 25, 31) {
		got, e := sched.Ask(three(0, true), id, 1)
		wantError(t, fmt.Sprint("Ask of ", id), got, e, api.ErrQueue)
		got, e = sched.Ask(api.Turns{}, id, 1)
		wantError(t, fmt.Sprint("Ask without queues of ", id), got, e, api.ErrQueue)
	}
}

// Check's error comes first, also where the other arguments are wrong themselves.
func TestWrongTurnsAreRefused(t *testing.T) {
	for what, c := range wrong() {
		for _, id := range []int{-1, 0, 1, 2, 10, 40} {
			for _, n := range []int{-1, 0, 1, maxQuantum + 1, maxCost + 1} {
				got, e := sched.Enter(c.t, id, n)
				wantError(t, "Enter to "+what, got, e, c.errno)
				got, e = sched.Leave(c.t, id)
				wantError(t, "Leave of "+what, got, e, c.errno)
				got, e = sched.Ask(c.t, id, n)
				wantError(t, "Ask of "+what, got, e, c.errno)
			}
		}
	}
}

func TestCallsOfSmallTurns(t *testing.T) {
	small(func(q api.Turns) {
		for id := -1; id < 7; id++ {
			got, e := sched.Enter(q, id, 2)
			if after, f := slowEnter(q, id, 2); e != f || !same(got, after) {
				t.Fatalf("Enter(%v, %d, 2) = %v, %d, want %v, %d", q, id, got, e, after, f)
			}
			got, e = sched.Leave(q, id)
			if after, f := slowLeave(q, id); e != f || !same(got, after) {
				t.Fatalf("Leave(%v, %d) = %v, %d, want %v, %d", q, id, got, e, after, f)
			}
			got, e = sched.Ask(q, id, 3)
			if after, f := slowAsk(q, id, 3); e != f || !same(got, after) {
				t.Fatalf("Ask(%v, %d, 3) = %v, %d, want %v, %d", q, id, got, e, after, f)
			}
		}
	})
}
