package stream

import "slices"

// Cuts tells places at which a text of n bytes is cut.
func Cuts(n int, at []int) []int {
	if n < 0 {
		return nil
	}
	var places []int
	for _, x := range at {
		places = append(places, place(n, x))
	}
	slices.Sort(places)
	return slices.Compact(places)
}

// place is x modulo n + 1. That sum may be above every int, so the numbers are taken without a sign; below 0 they count back from n.
func place(n, x int) int {
	all := uint64(n) + 1
	if x < 0 {
		return n - int(uint64(^x)%all)
	}
	return int(uint64(x) % all)
}
