package stream_test

import (
	"fmt"
	"math"
	"math/big"
	"slices"
	"testing"

	"chronicle/probe"
	"chronicle/stream"
)

// slowCuts takes each number modulo n + 1 with numbers that have no end, and lays it where it belongs.
func slowCuts(n int, at []int) []int {
	var list []int
	if n < 0 {
		return nil
	}
	places := new(big.Int).Add(big.NewInt(int64(n)), big.NewInt(1))
	for _, x := range at {
		place := int(new(big.Int).Mod(big.NewInt(int64(x)), places).Int64())
		where, there := slices.BinarySearch(list, place)
		if !there {
			list = slices.Insert(list, where, place)
		}
	}
	return list
}

func wantCuts(t *testing.T, n int, at []int, wanted ...int) {
	t.Helper()
	if got := stream.Cuts(n, at); !slices.Equal(got, wanted) {
		t.Errorf("Cuts(%d, %v) = %v, want %v", n, at, got, wanted)
	}
}

// 17.6
func TestCuts(t *testing.T) {
	wantCuts(t, 10, []int{13, -1, 2, 2}, 2, 10)
	wantCuts(t, 10, nil)
	wantCuts(t, 10, []int{})
	wantCuts(t, 10, []int{10, 0, 11, -11, 21, 5}, 0, 5, 10)
	wantCuts(t, 10, []int{9, 8, 7, 7, 8, 9}, 7, 8, 9)
	wantCuts(t, 10, []int{-1, -10, -11, -12}, 0, 1, 10)
	wantCuts(t, 1, []int{0, 1, 2, 3, -1, -2}, 0, 1)
	wantCuts(t, 0, []int{0, 1, -1, 77, math.MaxInt, math.MinInt}, 0)
	wantCuts(t, 0, nil)
	for _, n := range []int{-1, -2, -10, math.MinInt} {
		wantCuts(t, n, nil)
		wantCuts(t, n, []int{0})
		wantCuts(t, n, []int{5, -1, 0, math.MaxInt, math.MinInt})
	}
	wantCuts(t, math.MaxInt, []int{math.MaxInt, -1, 0, math.MinInt, math.MinInt + 1}, 0, 1, math.MaxInt)
	wantCuts(t, math.MaxInt-1, []int{math.MaxInt, -1, 0, math.MinInt}, 0, math.MaxInt-1)
}

func TestCutsOfAllSmallNumbers(t *testing.T) {
	for n := -2; n < 12; n++ {
		var all []int
		for x := -40; x < 40; x++ {
			wantCuts(t, n, []int{x}, slowCuts(n, []int{x})...)
			all = append(all, x)
			wantCuts(t, n, all, slowCuts(n, all)...)
		}
	}
}

func TestCutsOfAnyNumbers(t *testing.T) {
	edges := []int{0, 1, -1, math.MaxInt, math.MaxInt - 1, math.MinInt, math.MinInt + 1, 1 << 32, -1 << 32, 1 << 62, -1 << 62, 1<<62 - 1, 1<<62 + 1}
	for _, n := range append(edges, 2, 3, 10, 255, 4096) {
		wantCuts(t, n, edges, slowCuts(n, edges)...)
	}
	for seed := range uint64(500) {
		noise := probe.Noise(seed, 30)
		n := int(noise[0] >> (1 + noise[1]>>20%63))
		var at []int
		for _, x := range noise[2 : 2+noise[1]>>30%28] {
			at = append(at, int(x)>>(x>>20%60))
		}
		got := stream.Cuts(n, at)
		wantCuts(t, n, at, slowCuts(n, at)...)
		for i, place := range got {
			if place < 0 || place > n || i > 0 && place <= got[i-1] {
				t.Errorf("Cuts(%d, %v) = %v", n, at, got)
			}
		}
	}
}

// A list of numbers is neither changed nor kept, and the answer is new.
func TestCutsMemory(t *testing.T) {
	at, unchanged := probe.Spare([]int{7, 3, 3, -1, 20}, 9)
	got := stream.Cuts(10, at)
	if fmt.Sprint(got) != "[3 7 9 10]" || !unchanged() {
		t.Errorf("%v, or what was handed in is changed", got)
	}
	probe.Scribble(at)
	if fmt.Sprint(got) != "[3 7 9 10]" {
		t.Errorf("the answer is what was handed in: %v", got)
	}
	rising, unchanged := probe.Spare([]int{1, 2, 3}, 9)
	got = stream.Cuts(10, rising)
	probe.Scribble(append(got, 4))
	probe.Scribble(got)
	if !unchanged() {
		t.Error("the answer shares memory with what was handed in")
	}
	if again := stream.Cuts(10, rising); fmt.Sprint(again) != "[1 2 3]" {
		t.Errorf("a later answer: %v", again)
	}
}
