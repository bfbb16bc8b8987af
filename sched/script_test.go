package sched_test

import (
	"fmt"
	"testing"

	"chronicle/api"
	"chronicle/probe"
	"chronicle/sched"
)

// TestScripts does what rows of numbers say to turns, and holds each answer against what the document says, step by step. R2: the same turns answer the same twice.
func TestScripts(t *testing.T) {
	seen := map[string]int{}
	for seed := range uint64(60) {
		s := script{t: t, noise: probe.Noise(seed+1, 40000), seen: seen, great: seed%3 == 0}
		for range 2000 {
			s.step()
			if t.Failed() {
				t.Fatalf("script %d", seed)
			}
		}
	}
	for what, least := range map[string]int{
		"Enter": 500, "Enter refused": 500, "Leave": 500, "Leave refused": 500, "Ask": 10000, "Ask refused": 500,
		"served": 10000, "served a round later": 100, "served far later": 100, "nobody": 50, "32 queues": 50, "the greatest cost": 50,
	} {
		if seen[what] < least {
			t.Errorf("%s was seen %d times", what, seen[what])
		}
	}
}

type script struct {
	t     *testing.T
	turns api.Turns
	noise []uint64
	seen  map[string]int
	great bool // whether numbers of the whole ranges come
}

// below takes a number from the row.
func (s *script) below(n int) int {
	x := s.noise[0]
	s.noise = s.noise[1:]
	return int(x>>11) % n
}

// number is one from 1 to the greatest, or a little beyond these at times.
func (s *script) number(greatest int) int {
	switch s.below(300) {
	case 0, 1, 2, 3, 4, 5:
		return 0
	case 6, 7, 8, 9, 10:
		return greatest + 1
	case 11:
		return greatest
	}
	if s.great {
		return 1 + s.below(greatest)
	}
	return 1 + s.below(12)
}

func (s *script) step() {
	id := s.below(45) - 1
	switch k := s.below(32); {
	case k < 4:
		quantum := s.number(maxQuantum)
		got, e := sched.Enter(s.turns, id, quantum)
		after, f := slowEnter(s.turns, id, quantum)
		s.settle("Enter", got, e, after, f)
	case k < 5:
		got, e := sched.Leave(s.turns, id)
		after, f := slowLeave(s.turns, id)
		s.settle("Leave", got, e, after, f)
	case k < 19:
		cost := s.number(maxCost)
		got, e := sched.Ask(s.turns, id, cost)
		after, f := slowAsk(s.turns, id, cost)
		if e == api.OK && cost == maxCost {
			s.seen["the greatest cost"]++
		}
		s.settle("Ask", got, e, after, f)
	default:
		s.next()
	}
}

// settle goes on with what was answered, if it is right.
func (s *script) settle(what string, got api.Turns, e api.Errno, after api.Turns, f api.Errno) {
	s.t.Helper()
	if e != f || !same(got, after) {
		s.t.Errorf("%s of %v = %v, %d, want %v, %d", what, s.turns, got, e, after, f)
		return
	}
	if e != api.OK {
		s.seen[what+" refused"]++
		return
	}
	s.seen[what]++
	s.goOn(got)
}

func (s *script) next() {
	s.t.Helper()
	got, id, cost, ok := sched.Next(s.turns)
	again, j, d, p := sched.Next(s.turns)
	after, i, c, o, passed := slowNext(s.turns)
	if id != i || cost != c || ok != o || !same(got, after) {
		s.t.Errorf("Next(%v) = %v, %d, %d, %v, want %v, %d, %d, %v", s.turns, got, id, cost, ok, after, i, c, o)
	}
	if id != j || cost != d || ok != p || !same(got, again) {
		s.t.Errorf("Next(%v) is another the second time", s.turns)
	}
	switch n := len(s.turns.Queues); {
	case !ok:
		s.seen["nobody"]++
	case passed < n:
		s.seen["served"]++
	case passed < 3*n:
		s.seen["served a round later"]++
	default:
		s.seen["served far later"]++
	}
	s.goOn(got)
}

// goOn takes turns that were answered; these always may be.
func (s *script) goOn(turns api.Turns) {
	s.t.Helper()
	want(s.t, fmt.Sprintf("Check(%v)", turns), sched.Check(turns), api.OK)
	if len(turns.Queues) == maxQueues {
		s.seen["32 queues"]++
	}
	s.turns = turns
}
