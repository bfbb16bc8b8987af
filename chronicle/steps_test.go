package chronicle_test

import (
	"fmt"
	"math"
	"strings"
	"testing"

	"chronicle/api"
)

// 24.3: VTick, VSteps, VTake, VState

func TestTick(t *testing.T) {
	wantTold(t, `
tick 0
tick 1
tick 0
tick 1125899906842620
tick 1
tick 1
tick 1
tick 1
tick 1125899906842624
tick 0
`, `
1 tick 0
2 tick 1
3 tick 1
4 tick 1125899906842621
5 tick 1125899906842622
6 tick 1125899906842623
7 tick 1125899906842623
8 tick 1125899906842623
9 tick 1125899906842623
10 tick 1125899906842623
`)
	for first, wanted := range map[string]string{"tick 1125899906842623": "1125899906842623", "tick 1125899906842624": "1125899906842623", "tick 1125899906842622": "1125899906842622"} {
		wantTold(t, first+"\n", "1 tick "+wanted+"\n")
	}
}

// The clock is that of the steps, and of what is opened behind a crash, which takes none of it.
func TestClock(t *testing.T) {
	wantTold(t, `
open 1
say 1 1 create t 0
tick 5
say 1 2 put t a "" 0 0
steps 0 0
tick 3
say 1 3 put t b "" 0 0
steps 0 1
tick 9
crash
tick 1
open 1
say 1 4 put t c "" 0 0
tick 1125899906842624
steps 0 1
crash
open 1
say 1 5 put t d "" 0 0
say 1 6 replay t 0
steps 0 1 0 2
take 1 9999
`, `
1 open 0
2 say 0 1
3 tick 5
4 say 0 1
5 did 1 1 1 2 0 0
5 did 1 1 1 5 -1 0
6 tick 8
7 say 0 1
8 did 1 1 1 5 -1 0
8 did 2 0 0 0 0 1
9 tick 17
10 crash 0
11 tick 18
12 open 0
13 say 0 1
14 tick 1125899906842623
15 did 1 1 1 5 -1 0
15 did 2 0 0 0 0 1
16 crash 0
17 open 0
18 say 0 1
19 say 0 1
20 did 1 1 1 5 -1 0
20 did 2 0 0 0 0 1
20 did 1 1 1 8 0 0
20 did 3 1 0 0 0 4
21 got 5 put ok 3 0 last
21 got 6 replay ok 0 1 last
21 got 6 deliver ok 4 0 last value 0 5 0 0 a "" value 1 8 0 0 b "" value 2 1125899906842623 0 0 c "" value 3 1125899906842623 0 0 d ""
21 take 0
`)
}

func TestSteps(t *testing.T) {
	wantTold(t, `
steps
steps 0 -1 9223372036854775807 -9223372036854775808
open 1
steps
say 1 1 create t 0
say 1 2 put t k v 0 0
say 1 3 subscribe t 0
steps -4 4 0 -3 -2 3
take 1 999
say 1 4 put t k v 0 0
say 1 5 get t k
steps 9223372036854775804 -9223372036854775807 4611686018427387905 2
take 1 999
`, `
2 did 0 0 0 0 0 0
2 did 0 0 0 0 0 0
2 did 0 0 0 0 0 0
2 did 0 0 0 0 0 0
3 open 0
5 say 0 1
6 say 0 1
7 say 0 1
8 did 1 1 1 2 0 0
8 did 1 1 1 5 -1 0
8 did 1 1 1 10 0 0
8 did 2 0 0 0 0 1
8 did 3 1 0 0 0 1
8 did 0 0 0 0 0 0
9 got 1 create ok 0 1 last
9 got 3 subscribe ok 0 1 last
9 got 2 put ok 0 0 last
9 got 3 deliver ok 1 0 more value 0 0 0 0 k v
9 take 0
10 say 0 1
11 say 0 1
12 did 1 1 1 5 -1 0
12 did 2 0 0 0 0 1
12 did 3 1 0 0 0 1
12 did 1 1 1 7 0 0
13 got 4 put ok 1 0 last
13 got 3 deliver ok 2 0 more value 1 0 0 0 k v
13 got 5 get ok 0 0 last value 1 0 0 0 k v
13 take 0
`)
}

// With an error the picks left are not played, but the lines behind are.
func TestStepsThatAreRefused(t *testing.T) {
	wantTold(t, `
open 1
say 1 1 create t 0
steps 0
say 1 2 put t k v 0 0
say 1 3 ping
say 1 4 put t k v 0 0
fuse 1
steps 0 0 0 1 2 3
steps
steps 0
steps 1 1 1
tick 1
`, `
1 open 0
2 say 0 1
3 did 1 1 1 2 0 0
4 say 0 1
5 say 0 1
6 say 0 1
7 fuse
8 did 1 1 1 5 -1 0
8 did 1 1 0 1 0 0
8 did error 34
10 did error 34
11 did error 34
12 tick 1
`)
}

// Merges are told step by step.
func TestMergeSteps(t *testing.T) {
	got := ran(t, texts(merging(12)...), wide, usual())
	for kind := range 11 {
		if kind == api.MgTomb || kind == api.MgGive {
			continue // there are no tombstones, and nothing is refused
		}
		want(t, fmt.Sprint("a step of the kind ", kind), strings.Contains(got.told, fmt.Sprintf("did 4 0 1 %d 0 0\n", kind)), true)
	}
}

// Bytes are taken in pieces, and told as soon as a frame is whole.
func TestTake(t *testing.T) {
	wantTold(t, `
open 1
take 1 0
take 1 99
say 1 1 ping
say 1 2 ping
say 1 3 ping
steps 0 0 0
take 1 0
take 1 1
take 1 16
take 1 1
take 1 17
take 1 40
take 1 40
`, `
1 open 0
2 take 0
3 take 0
4 say 0 1
5 say 0 1
6 say 0 1
7 did 1 1 0 1 0 0
7 did 1 1 0 1 0 0
7 did 1 1 0 1 0 0
8 take 0
9 take 0
10 take 0
11 got 1 ping ok 0 0 last
11 take 0
12 take 0
13 got 2 ping ok 0 0 last
13 got 3 ping ok 0 0 last
13 take 0
14 take 0
`)
	for n := range 60 {
		got := ran(t, texts("open 1", "say 1 1 ping", "say 1 2 ping", "steps 0 0", fmt.Sprint("take 1 ", n), "take 1 1073741824"), wide, usual())
		want(t, "how many are told at once", strings.Count(got.told, "5 got"), min(n/18, 2))
		want(t, "all are told", strings.Count(got.told, " got "), 2)
	}
	// Byte by byte.
	script := []string{"open 1", "say 1 1 ping", "say 1 2 list x", "steps 0 0"}
	for range 40 {
		script = append(script, "take 1 1")
	}
	got := ran(t, texts(script...), wide, usual())
	want(t, "told", strings.Contains(got.told, "22 got 1 ping ok 0 0 last\n22 take 0\n23 take 0\n"), true)
	want(t, "told", strings.Contains(got.told, "40 got 2 list ok 0 0 last\n40 take 0\n41 take 0\n"), true)
}

// Who is opened anew hears from the beginning of a new stream, though half a frame was read.
func TestHalfAFrame(t *testing.T) {
	for n := range 40 {
		for what, again := range map[string]string{"opened twice": "", "shut": "shut 1", "a crash": "crash", "shut, and a crash": "shut 1\ncrash"} {
			got := ran(t, texts("open 1", "say 1 1 ping", "say 1 2 ping", "steps 0 0", fmt.Sprint("take 1 ", n), again, "open 1", "say 1 3 ping", "steps 0", "take 1 999"), wide, usual())
			want(t, what, strings.Count(got.told, " got "), min(n/18, 2)+1)
			want(t, what, strings.Contains(got.told, " got 3 ping ok 0 0 last\n"), true)
		}
	}
}

// Each client has a reader of its own.
func TestReadersApart(t *testing.T) {
	wantTold(t, `
open 1
open 2
say 1 1 ping
say 2 2 ping
steps 0 0
take 1 7
take 2 3
take 1 10
take 2 14
take 2 1
take 1 1
`, `
1 open 0
2 open 0
3 say 0 1
4 say 0 1
5 did 1 1 0 1 0 0
5 did 1 2 0 1 0 0
6 take 0
7 take 0
8 take 0
9 take 0
10 got 2 ping ok 0 0 last
10 take 0
11 got 1 ping ok 0 0 last
11 take 0
`)
}

// Answers with all that may be in one.
func TestGot(t *testing.T) {
	long := strings.Repeat("v", 1024)
	script := []string{"open 1", "say 1 1 create t 0", "say 1 2 create u-1 0", say(1, api.Request{Id: 3, Op: api.OpPut, Topic: "t", Key: "a b", Value: long}), say(1, api.Request{Id: 4, Op: api.OpDelete, Topic: "t", Key: "\xff", Pid: 1<<32 - 1, Seq: 1}), "say 1 5 list \"\"", "steps 0 0 0 0 0 1", "say 1 6 replay t 0", "steps 0 2", "take 1 99999"}
	got := ran(t, texts(script...), wide, usual())
	wanted := `
10 got 1 create ok 0 1 last
10 got 2 create ok 0 2 last
10 got 5 list ok 0 0 last name t name u-1
10 got 3 put ok 0 0 last
10 got 4 delete ok 1 0 last
10 got 6 replay ok 0 1 last
10 got 6 deliver ok 2 0 last value 0 0 0 0 "a b" ` + long + ` tombstone 1 0 4294967295 1 "\xff" ""
10 take 0
`
	want(t, "told", strings.HasSuffix(got.told, wanted), true)
}

func TestState(t *testing.T) {
	wantTold(t, `
state
open 1
say 1 1 create b 0
say 1 2 create a-1 0
say 1 3 create 0 0
steps 0 0 0
state
say 1 4 put b k v 0 0
say 1 5 put a-1 k v 0 0
say 1 6 put a-1 l v 0 0
say 1 7 join g
steps 0 0 0 0
state
steps 1
open 2
state
say 1 8 drop 0
say 1 9 delete a-1 k 0 0
steps 0 0
state
say 2 10 drop b
say 2 11 drop a-1
steps 0 0
state
shut 1
state
say 2 12 create b 0
steps 0
crash
state
`, `
1 state 0 0 0 0 0
2 open 0
3 say 0 1
4 say 0 1
5 say 0 1
6 did 1 1 1 2 0 0
6 did 1 1 2 2 0 0
6 did 1 1 3 2 0 0
7 state 1 3 0 0 0
7 topic 0 3 0 1 0
7 topic a-1 2 0 1 0
7 topic b 1 0 1 0
8 say 0 1
9 say 0 1
10 say 0 1
11 say 0 1
12 did 1 1 1 5 -1 0
12 did 1 1 2 5 -1 0
12 did 1 1 2 5 -1 0
12 did 1 1 0 12 -1 0
13 state 1 3 4 0 0
13 topic 0 3 0 1 0
13 topic a-1 2 0 1 0
13 topic b 1 0 1 0
14 did 2 0 0 0 0 3
15 open 0
16 state 2 3 0 0 0
16 topic 0 3 0 1 0
16 topic a-1 2 2 1 2
16 topic b 1 1 1 1
17 say 0 1
18 say 0 1
19 did 1 1 3 3 0 0
19 did 1 1 2 6 -1 0
20 state 2 2 1 0 0
20 topic a-1 2 2 1 2
20 topic b 1 1 1 1
21 say 0 1
22 say 0 1
23 did 1 2 1 3 0 0
23 did 1 2 2 3 0 0
24 state 2 0 0 0 0
25 shut 0
26 state 1 0 0 0 0
27 say 0 1
28 did 1 2 4 2 0 0
29 crash 0
30 state 0 1 0 0 0
30 topic b 4 0 1 0
`)
}

// Open merges are told, and as many topics as may be.
func TestStateOfMany(t *testing.T) {
	script := []string{"open 1"}
	for i := range 17 {
		script = append(script, fmt.Sprintf("say 1 1 create topic-%d 0", i))
	}
	script = append(script, "steps"+strings.Repeat(" 0", 17), "state")
	got := ran(t, texts(script...), wide, usual())
	want(t, "told", strings.Contains(got.told, "20 state 1 16 0 0 0\n20 topic topic-0 1 0 1 0\n20 topic topic-1 2 0 1 0\n20 topic topic-10 11 0 1 0\n"), true)
	want(t, "topics", strings.Count(got.told, " topic topic-"), 16)
	lines := merging(12)
	open := 0
	for n := range lines {
		if got := ran(t, texts(append(lines[:n:n], "state")...), wide, usual()); strings.Contains(got.told, fmt.Sprint(n+1, " state 1 1 0 1 0\n")) {
			open++
		}
	}
	want(t, "a merge is open", open > 5, true)
}

// Numbers are told as they are, however great.
func TestGreatNumbers(t *testing.T) {
	got := ran(t, texts("tick 1125899906842624", "open 1", say(1, api.Request{Id: math.MaxUint32, Op: api.OpUnsubscribe, Number: math.MaxInt64}), "steps 0", "take 1 99"), wide, usual())
	want(t, "told", got.told, "1 tick 1125899906842623\n2 open 0\n3 say 0 1\n4 did 1 1 0 11 10 0\n5 got 4294967295 unsubscribe no-such 0 0 last\n5 take 0\n")
}
