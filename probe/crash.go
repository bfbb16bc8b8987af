package probe

import (
	"slices"
	"strconv"
	"strings"

	"chronicle/api"
	"chronicle/simfs"
)

// Key tells an image in one text, so that two can be held against each other.
func Key(image []api.File) string {
	var b strings.Builder
	for _, f := range image {
		b.WriteString(f.Name + " " + strconv.Itoa(len(f.Data)) + " ")
		b.Write(f.Data)
	}
	return b.String()
}

// Leavings is what a crash may leave of a disk: all of it, where one file at most waits for a sync, and some of it else.
func Leavings(d *simfs.Disk) [][]api.File {
	var all [][]api.File
	for _, picks := range Picks(d) {
		all = append(all, d.Crash(picks))
	}
	return all
}

// Picks is the picks by which a crash leaves each of these, once each.
func Picks(d *simfs.Disk) [][]int {
	var all [][]int
	known := map[string]int{}
	add := func(picks ...int) bool {
		k := Key(d.Crash(picks))
		known[k]++
		if known[k] == 1 {
			all = append(all, slices.Clone(picks))
		}
		return known[k] == 1
	}
	for named := range 8 {
		add(named)
		for at := range len(d.Crash([]int{named})) + 1 {
			picks := make([]int, at+1, at+3)
			picks[0] = named
			if !add(append(picks, 1)...) && !add(append(picks, 0, 1)...) {
				continue // nothing waits there, or it is known
			}
			for changes := range 7 {
				for torn := range 60 {
					add(append(picks, changes, torn)...)
				}
			}
		}
	}
	for seed := range uint64(20) {
		var picks []int
		for _, x := range Noise(seed, 14) {
			picks = append(picks, int(x>>20%1000))
		}
		add(picks...)
	}
	return all
}
