package chronicle_test

import (
	"fmt"
	"strings"
	"testing"

	"chronicle/api"
	"chronicle/probe"
	"chronicle/record"
	"chronicle/simfs"
)

// 24.3: VFuse, VCrash, VCheck

func TestFuse(t *testing.T) {
	wantTold(t, `
open 1
say 1 1 create t 0
fuse 1
steps 0 0
take 1 9
state
crash
state
`, `
1 open 0
2 say 0 1
3 fuse
4 did error 34
5 take 34
6 state 1 0 0 0 1
7 crash 0
8 state 0 0 0 0 0
`)
	for what, c := range map[string]struct{ fuses, told string }{
		"none":                     {"fuse -1", "did 1 1 1 2 0 0"},
		"0":                        {"fuse 0", "did error 34"},
		"1":                        {"fuse 1", "did error 34"},
		"the greatest":             {"fuse 1073741824", "did 1 1 1 2 0 0"},
		"taken back":               {"fuse 0\nfuse -1", "did 1 1 1 2 0 0"},
		"a later one":              {"fuse 1000\nfuse 0", "did error 34"},
		"a later one, longer":      {"fuse 0\nfuse 1000", "did 1 1 1 2 0 0"},
		"none that outlives":       {"fuse 0\ncrash\nopen 1\nsay 1 1 create t 0", "did 1 1 1 2 0 0"},
		"again, behind that crash": {"fuse 0\ncrash\nfuse 0\nopen 1\nsay 1 1 create t 0", "did error 34"},
	} {
		got := ran(t, "open 1\nsay 1 1 create t 0\n"+c.fuses+"\nsteps 0\n", wide, usual())
		want(t, what, strings.HasSuffix(got.told, " "+c.told+"\n"), true)
		want(t, what, strings.Count(got.told, " fuse\n"), strings.Count(c.fuses, "fuse"))
	}
}

// A create makes so many changing operations: with as many the power lasts, with less it goes.
func TestFuseCounts(t *testing.T) {
	script := func(n int) string {
		return texts("open 1", "say 1 1 create t 0", fmt.Sprint("fuse ", n), "steps 0 0", "say 1 2 put t k v 0 0", "steps 0 1 1")
	}
	ops := operations(slowLines(script(-1)))
	want(t, "operations", ops > 10, true)
	for n := range ops + 3 {
		got := ran(t, script(n), wide, usual())
		want(t, fmt.Sprint("power for ", n), strings.Contains(got.told, "did error 34"), n < ops)
	}
}

// Without power a store serves nobody, but tells of itself.
func TestWithoutPower(t *testing.T) {
	wantTold(t, `
open 1
open 2
say 1 1 create t 0
say 1 2 ping
steps 0 0
say 1 3 put t k v 0 0
fuse 0
check
state
steps 0
say 1 4 ping
raw 1 -
raw 7 c5
take 1 999
take 7 999
open 1
open 3
check
state
shut 1
shut 3
shut 2
shut 2
tick 3
steps 0
fuse -1
steps 0
state
crash
state
check
open 1
say 1 1 get t k
steps 0
take 1 99
`, `
1 open 0
2 open 0
3 say 0 1
4 say 0 1
5 did 1 1 1 2 0 0
5 did 1 1 0 1 0 0
6 say 0 1
7 fuse
8 check 0
9 state 2 1 0 0 0
9 topic t 1 0 1 0
10 did error 34
11 say 34 0
12 raw 34 0
13 raw 34 0
14 take 34
15 take 34
16 open 34
17 open 34
18 check 34
19 state 2 1 0 0 1
19 topic t 1 0 1 0
20 shut 201
21 shut 201
22 shut 0
23 shut 201
24 tick 3
25 did error 34
26 fuse
27 did error 34
28 state 1 1 0 0 1
28 topic t 1 0 1 0
29 crash 0
30 state 0 1 0 0 0
30 topic t 1 0 1 0
31 check 0
32 open 0
33 say 0 1
34 did 1 1 1 7 0 0
35 got 1 get ok 0 0 last
35 take 0
`)
}

// small is the bytes of a record of a key and a value of one letter each.
var small = record.Size(api.Record{Kind: api.KValue, Key: "k", Value: "v"})

// Picks choose what is left of two records.
func TestCrashPicks(t *testing.T) {
	script := func(crash string) string {
		return texts("open 1", "say 1 1 create t 0", "say 1 2 put t k v 0 0", "say 1 3 put t l w 0 0", "steps 0 0 0", crash, "state")
	}
	// The picks are the directory's, and then of catalog, t0.1.seg, t0.man, t1.1.seg, t1.man one and, where an append is next, one more.
	for picks, next := range map[string]int{
		"": 0, " 0": 0, " 9": 0, " 0 0 0 0 1": 1, " 0 0 0 0 2": 2, " 5 6 7 8 2 9": 2, " 0 0 0 0 -1": 2, " 0 0 0 0 -2": 1, " 0 0 0 0 3": 0, " 0 0 0 0 4": 1,
		" 0 0 0 0 9223372036854775807": 1, " 0 0 0 0 -9223372036854775808": 1, " 0 0 0 0 0 5": 0, " 0 0 0 0 1 5": 1, " 1 1 1 1 2 5 5 5 5 5 5": 2,
	} {
		got := ran(t, script("crash"+picks), wide, usual())
		want(t, "crash"+picks, strings.HasSuffix(got.told, fmt.Sprintf("6 crash 0\n7 state 0 1 0 0 0\n7 topic t 1 %d 1 %d\n", next, next)), true)
	}
	// The last append may be torn: so many bytes of it are left, and all of them are the record.
	for y := range 2 * (small + 1) {
		for at, crash := range []string{"crash 0 0 0 0 0 ", "crash 0 0 0 0 1 "} {
			got := ran(t, script(fmt.Sprint(crash, y)), wide, usual())
			next := at
			if y%(small+1) == small {
				next++
			}
			want(t, fmt.Sprint(crash, y), strings.HasSuffix(got.told, fmt.Sprintf("topic t 1 %d 1 %d\n", next, next)), true)
		}
	}
}

// Twice in a row: the second one leaves what the first one has left, whatever the picks.
func TestCrashTwice(t *testing.T) {
	ahead := []string{"open 1", "say 1 1 create t 0", "say 1 2 put t k v 0 0", "say 1 3 put t l w 0 0", "steps 0 0 0"}
	for x := range 4 {
		one := append(ahead[:len(ahead):len(ahead)], picked(api.VCrash, 0, 0, 0, 0, x))
		once := ran(t, texts(append(one, "state")...), wide, usual())
		for _, second := range []string{"crash", "crash 1", "crash 1 2 3 4 5 6 7", "crash -1 -1 -1 -1 -1 -1 -1", "crash 0 1 0 1 0 1 0 1"} {
			twice := ran(t, texts(append(one, second, "state")...), wide, usual())
			want(t, "what is left", probe.Key(twice.files), probe.Key(once.files))
			before, behind, _ := strings.Cut(unnumbered(once.told), "crash 0\n")
			want(t, "told", unnumbered(twice.told), before+"crash 0\ncrash 0\n"+behind)
		}
	}
	wantTold(t, "crash\ncrash\ncrash 5 5 5\nopen 1\ncrash\nsay 1 1 ping\nopen 1\nsay 1 1 ping\n", "1 crash 0\n2 crash 0\n3 crash 0\n4 open 0\n5 crash 0\n6 say 201 0\n7 open 0\n8 say 0 1\n")
}

// What was in nobody's hands goes with a crash: connections, requests that wait, bytes that were not taken, readers, open merges.
func TestWhatACrashTakes(t *testing.T) {
	wantTold(t, `
open 1
say 1 1 create t 0
say 1 2 subscribe t 0
steps 0 0
say 1 3 put t k v 0 0
crash
open 1
steps 0 1 2 3
take 1 999
say 1 4 unsubscribe 2
steps 0
take 1 999
state
`, `
1 open 0
2 say 0 1
3 say 0 1
4 did 1 1 1 2 0 0
4 did 1 1 1 10 0 0
5 say 0 1
6 crash 0
7 open 0
8 did 0 0 0 0 0 0
8 did 0 0 0 0 0 0
8 did 0 0 0 0 0 0
8 did 0 0 0 0 0 0
9 take 0
10 say 0 1
11 did 1 1 0 11 10 0
12 got 4 unsubscribe no-such 0 0 last
12 take 0
13 state 1 1 0 0 0
13 topic t 1 0 1 0
`)
}

// A disk on which a merge is under way has a file that no manifest names yet; so has one on which the power went within a call.
func TestCheckFinds(t *testing.T) {
	lines := merging(12)
	found := map[string]int{}
	for n := range lines {
		got := ran(t, texts(append(lines[:n:n], "check")...), wide, usual())
		for _, told := range slowLines(got.told) {
			var at, kind, place int
			var file string
			if parts, _ := fmt.Sscanf(told, "%d found %d %s %d", &at, &kind, &file, &place); parts == 4 {
				found[fmt.Sprint(kind, " ", file[strings.LastIndexByte(file, '.'):], " ", place)]++
				want(t, "behind it", strings.HasSuffix(got.told, fmt.Sprint(n+1, " check 0\n")), true)
			}
		}
	}
	want(t, "orphans", fmt.Sprint(found["8 .seg 0"] > 2, found["8 .hint 0"] > 0, len(found)), "true true 2")
}

// With a fuse at each operation, and the whole of what is seen left, or nothing but what is durable: the store opens, and nothing is wrong.
func TestCrashAtEveryOperation(t *testing.T) {
	lines := merging(14)
	ops := operations(lines)
	want(t, "operations", ops > 100, true)
	for n := range ops {
		for _, crash := range []string{"crash", "crash -1 -1 -1 -1 -1 -1 -1 -1 -1 -1 -1 -1 -1", "crash 1 2 3 4 5 6 7 8 9", "crash 3 1 4 1 5 9 2 6 5 3 5"} {
			script := append([]string{fmt.Sprint("fuse ", n)}, lines...)
			got := ran(t, texts(append(script, crash, "check", "state")...), wide, usual())
			at := len(lines) + 2
			want(t, fmt.Sprint("power for ", n), strings.Contains(got.told, fmt.Sprintf("%d crash 0\n%d check 0\n%d state 0 ", at, at+1, at+2)), true)
		}
	}
}

// every is the picks that choose every image that a crash may leave of a small disk, on which each change is seen.
func every(d *simfs.Disk) [][]int {
	most := 1 + 2*len(d.Image())
	var all [][]int
	var choose func(picks []int)
	choose = func(picks []int) {
		if len(picks) == most {
			all = append(all, append([]int{}, picks...))
			return
		}
		first := probe.Key(d.Crash(append(picks, 0)))
		for x := 0; x == 0 || probe.Key(d.Crash(append(picks, x))) != first; x++ {
			choose(append(picks, x))
		}
	}
	choose(make([]int, 0, most))
	return all
}

// Every image that a crash may leave of a small disk: two topics, each with records that wait for a commit.
func TestEveryImage(t *testing.T) {
	lines := []string{"open 1", "say 1 1 create a 0", "say 1 2 create b 0", "say 1 3 put a k v 0 0", "say 1 4 put b k v 0 0", "say 1 5 put b l w 0 0", "steps 0 0 0 0 0"}
	_, s := slowly(texts(lines...), wide, usual())
	images := map[string]int{}
	ends := map[string]int{}
	for _, picks := range every(s.disk) {
		images[probe.Key(s.disk.Crash(picks))]++
		got := run(texts(append(lines, picked(api.VCrash, picks...), "check", "state")...), wide, usual())
		_, told, _ := strings.Cut(got.told, "8 crash 0\n9 check 0\n10 state 0 2 0 0 0\n")
		ends[told]++
	}
	want(t, "images", len(images), (small+1)*(2*small+1))
	want(t, "ways to choose them", len(every(s.disk)), (small+2)*(2*small+3)) // an append is there that is torn behind its end, or one more is done
	for a := range 2 {
		for b := range 3 {
			want(t, fmt.Sprint("ends ", a, b), ends[fmt.Sprintf("10 topic a 1 %d 1 %d\n10 topic b 2 %d 1 %d\n", a, a, b, b)] > 0, true)
		}
	}
	want(t, "nothing else is left", len(ends), 6)
}
