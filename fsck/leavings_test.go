package fsck_test

import (
	"chronicle/api"
	"chronicle/probe"
	"chronicle/simfs"
)

// someLeavings is some of what a crash may leave of a disk: nothing that was not synced, all of it, and what chance leaves.
func someLeavings(d *simfs.Disk, seed int) [][]api.File {
	all := [][]api.File{d.Crash(nil), d.Image()}
	known := map[string]int{probe.Key(all[0]): 1, probe.Key(all[1]): 1}
	for i := range 12 {
		var picks []int
		for _, x := range probe.Noise(uint64(seed*12+i), 40) {
			picks = append(picks, int(x>>20%1000))
		}
		image := d.Crash(picks)
		known[probe.Key(image)]++
		if known[probe.Key(image)] == 1 {
			all = append(all, image)
		}
	}
	return all
}
