package sched

import "chronicle/api"

// Class tells which class of work is served; -1: none has work.
func Class(c api.Classes, work [api.NumClasses]bool, pick int) (api.Classes, int) {
	var waits [api.NumClasses]int
	for class, has := range work {
		if has {
			waits[class] = min(max(c.Waits[class], 0), api.Patience)
		}
	}
	served := overdue(waits)
	if served < 0 {
		served = picked(work, pick)
	}
	var after api.Classes
	for class, has := range work {
		if has && class != served {
			after.Waits[class] = waits[class] + 1
		}
	}
	return after, served
}

// overdue is the class that has waited longest, if that is so long that the others, which may be overdue with it, can still be served ahead of the end of their patience; else -1.
func overdue(waits [api.NumClasses]int) int {
	longest := 0
	for class, n := range waits {
		if n > waits[longest] {
			longest = class
		}
	}
	if waits[longest] < api.Patience-(api.NumClasses-1) {
		return -1
	}
	return longest
}

// picked is the class that a pick names, or the next one that has work; -1: none has.
func picked(work [api.NumClasses]bool, pick int) int {
	// The remainder of a number below 0 is not above 0.
	first := (pick%api.NumClasses + api.NumClasses) % api.NumClasses
	for i := range api.NumClasses {
		class := (first + i) % api.NumClasses
		if work[class] {
			return class
		}
	}
	return -1
}
