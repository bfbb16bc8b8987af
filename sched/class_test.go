package sched_test

import (
	"math"
	"testing"

	"chronicle/api"
	"chronicle/sched"
)

func wantClass(t *testing.T, waits [4]int, work [4]bool, pick, class int, after [4]int) {
	t.Helper()
	if got, k := sched.Class(api.Classes{Waits: waits}, work, pick); got.Waits != after || k != class {
		t.Errorf("Class(%v, %v, %d) = %v, %d, want %v, %d", waits, work, pick, got, k, after, class)
	}
}

// works is all that may have work, and not.
func works() [][4]bool {
	var list [][4]bool
	for n := range 16 {
		list = append(list, [4]bool{n&1 > 0, n&2 > 0, n&4 > 0, n&8 > 0})
	}
	return list
}

var allWork = [4]bool{true, true, true, true}

// 19.4

func TestClassOfTheExamples(t *testing.T) {
	some := [4]bool{true, false, true, true}
	wantClass(t, [4]int{}, some, 1, 2, [4]int{1, 0, 0, 1})
	wantClass(t, [4]int{}, some, -1, 3, [4]int{1, 0, 1, 0})
	for _, pick := range []int{0, 1, 2, 3} {
		wantClass(t, [4]int{13, 0, 15, 0}, allWork, pick, 2, [4]int{14, 1, 0, 1})
		wantClass(t, [4]int{14, 1, 0, 1}, allWork, pick, 0, [4]int{0, 2, 1, 2})
	}
}

func TestClassWithoutWork(t *testing.T) {
	for _, waits := range [][4]int{{}, {1, 2, 3, 4}, {16, 16, 16, 16}, {-1, 99, math.MinInt, math.MaxInt}} {
		for _, pick := range append(far, 0, 1, 2, 3, 4) {
			wantClass(t, waits, [4]bool{}, pick, -1, [4]int{})
		}
	}
}

func TestClassWithWorkOfOne(t *testing.T) {
	for k := range 4 {
		var work [4]bool
		work[k] = true
		for _, pick := range append(far, 0, 1, 2, 3, 4) {
			wantClass(t, [4]int{5, 16, 16, 7}, work, pick, k, [4]int{})
		}
	}
}

func TestClassThatIsPicked(t *testing.T) {
	waits := [4]int{3, 12, 0, 5}
	for k, after := range [][4]int{{0, 13, 1, 6}, {4, 0, 1, 6}, {4, 13, 0, 6}, {4, 13, 1, 0}} {
		for _, pick := range []int{k, k + 4, k + 400, k - 4, k - 400, math.MinInt + k, math.MaxInt - 3 + k} {
			wantClass(t, waits, allWork, pick, k, after)
		}
	}
}

// The class that is picked has no work: the next one that has is served, the first one behind the last.
func TestClassBehindThePick(t *testing.T) {
	wantClass(t, [4]int{1, 2, 3, 4}, [4]bool{true, true, false, false}, 2, 0, [4]int{0, 3, 0, 0})
	wantClass(t, [4]int{1, 2, 3, 4}, [4]bool{true, true, false, false}, 3, 0, [4]int{0, 3, 0, 0})
	wantClass(t, [4]int{1, 2, 3, 4}, [4]bool{false, true, true, false}, 3, 1, [4]int{0, 0, 4, 0})
	wantClass(t, [4]int{1, 2, 3, 4}, [4]bool{false, true, false, true}, 2, 3, [4]int{0, 3, 0, 0})
	wantClass(t, [4]int{1, 2, 3, 4}, [4]bool{true, false, false, true}, 1, 3, [4]int{2, 0, 0, 0})
}

func TestClassThatIsOverdue(t *testing.T) {
	for k := range 4 {
		for _, n := range []int{12, 13, 14, 15, 16, 17, 18, 99, math.MaxInt} {
			var waits, after [4]int
			waits[k] = n
			after = [4]int{1, 1, 1, 1}
			pick := (k + 1) % 4
			if n >= 13 {
				after[k] = 0
				wantClass(t, waits, allWork, pick, k, after)
			} else {
				after[pick], after[k] = 0, n+1
				wantClass(t, waits, allWork, pick, pick, after)
			}
		}
	}
}

// The greatest Waits count first, of several the lowest class's; those above Patience count alike.
func TestClassOfSeveralThatAreOverdue(t *testing.T) {
	for pick := range 4 {
		wantClass(t, [4]int{13, 13, 13, 13}, allWork, pick, 0, [4]int{0, 14, 14, 14})
		wantClass(t, [4]int{13, 14, 14, 13}, allWork, pick, 1, [4]int{14, 0, 15, 14})
		wantClass(t, [4]int{13, 14, 14, 15}, allWork, pick, 3, [4]int{14, 15, 15, 0})
		wantClass(t, [4]int{0, 16, 17, 15}, allWork, pick, 1, [4]int{1, 0, 17, 16})
		wantClass(t, [4]int{0, 15, 17, 16}, allWork, pick, 2, [4]int{1, 16, 0, 17})
		wantClass(t, [4]int{0, 12, 20, 99}, allWork, pick, 2, [4]int{1, 13, 0, 17})
		wantClass(t, [4]int{16, 16, math.MaxInt, math.MaxInt}, allWork, pick, 0, [4]int{0, 17, 17, 17})
	}
}

// Who has no work is not overdue, however long it has waited.
func TestClassOverdueWithoutWork(t *testing.T) {
	wantClass(t, [4]int{16, 14, 15, 13}, [4]bool{false, true, false, true}, 3, 1, [4]int{0, 0, 0, 14})
	wantClass(t, [4]int{16, 1, 15, 2}, [4]bool{false, true, false, true}, 3, 3, [4]int{0, 2, 0, 0})
}

func TestClassWithWaitsBelow0(t *testing.T) {
	wantClass(t, [4]int{-1, -2, math.MinInt, -99}, allWork, 2, 2, [4]int{1, 1, 0, 1})
	wantClass(t, [4]int{-1, 13, math.MinInt, 3}, allWork, 2, 1, [4]int{1, 0, 1, 4})
}

func TestClassOfAllAtTheEdges(t *testing.T) {
	edges := []int{math.MinInt, -1, 0, 1, 12, 13, 14, 15, 16, 17, math.MaxInt}
	for _, work := range works() {
		for i := range len(edges) * len(edges) * len(edges) * len(edges) {
			var waits [4]int
			for k := range waits {
				waits[k] = edges[i%len(edges)]
				i /= len(edges)
			}
			for pick := range 4 {
				after, class := slowClass(waits, work, pick)
				wantClass(t, waits, work, pick, class, after)
			}
		}
	}
}
