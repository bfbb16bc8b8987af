package chronicle_test

import (
	"math"
	"strings"
	"testing"

	"chronicle/api"
	"chronicle/probe"
)

// settings is quotas and configs of many sorts.
func (a *author) settings() (int, api.Config) {
	cfg := api.Config{Limit: of(a, 256, 300, 600), Horizon: int64(of(a, 0, 10, 100)), Share: of(a, 1, 30, 50, 100)}
	if a.roll(6) == 0 {
		cfg.Num, cfg.Den, cfg.Burst = 1, 4, 5
	}
	return of(a, wide, wide, wide, 6000, 9000), cfg
}

// 24.1 to 24.4, over many scripts, against the slow one.
func TestScripts(t *testing.T) {
	seen := map[string]int{}
	for seed := range uint64(250) {
		a := newAuthor(seed)
		quota, cfg := a.settings()
		got := ran(t, strings.Join(a.script(500), "\n"), quota, cfg)
		want(t, "the spot", got.spot, api.Spot{})
		for _, line := range slowLines(unnumbered(got.told)) {
			parts := strings.Fields(line)
			switch parts[0] {
			case "got":
				seen[parts[2]+" "+parts[3]]++
			case "fuse":
				seen["fuse"]++
			case "tick":
				seen["tick"]++
			default:
				seen[parts[0]+" "+parts[1]]++
			}
		}
		if t.Failed() {
			t.Fatalf("the script %d", seed)
		}
	}
	for what, least := range map[string]int{
		"open 0": 1000, "open 200": 1, "open 34": 5, "shut 0": 100, "shut 201": 30, "say 0": 10000, "say 201": 1000, "say 34": 100, "raw 0": 2000, "raw 201": 100, "raw 34": 40, "take 0": 5000, "take 201": 500, "take 34": 100,
		"did 0": 10000, "did 1": 10000, "did 2": 1000, "did 3": 1000, "did 4": 1000, "did error": 100, "fuse": 500, "crash 0": 1000, "check 0": 1000, "check 34": 10, "found 8": 50,
		"state 1": 100, "state 0": 10, "topic t0": 1000, "ping ok": 100, "ping bad-request": 100, "put ok": 1000, "deliver ok": 1000, "put full": 5, "ping throttled": 10, "put sequence": 100,
		"create exists": 100, "drop ok": 50, "deliver no-topic": 10, "list ok": 50, "get ok": 50, "replay ok": 50, "snapshot ok": 50, "subscribe ok": 50, "unsubscribe ok": 1, "join ok": 50, "commit ok": 10, "position ok": 5, "stat ok": 50,
	} {
		if seen[what] < least {
			t.Errorf("%q was told %d times, want %d", what, seen[what], least)
		}
	}
	t.Log(seen)
}

// 24.1: scripts of which one line is changed.
func TestBrokenScripts(t *testing.T) {
	seen := map[api.Errno]int{}
	for seed := range uint64(500) {
		a := newAuthor(seed + 5000)
		got := ran(t, texts(a.broken(a.script(30))...), wide, usual())
		seen[got.spot.Err]++
		if got.spot.Err != api.OK {
			want(t, "nothing is told", got.told+probe.Key(got.files), "")
		}
	}
	want(t, "some are right, and some are not", seen[api.OK] > 50 && seen[api.ErrLine] > 200, true)
}

// R1: whatever is handed in, a script comes to its end.
func TestAnything(t *testing.T) {
	quotas := []int{0, -1, 1, 49, 200, 4096, wide, maxQuota, maxQuota + 1, math.MaxInt, math.MinInt}
	for seed := range uint64(600) {
		a := newAuthor(seed + 9000)
		text := []byte(strings.Join(a.script(20), "\n"))
		if a.roll(3) == 0 {
			text = []byte(probe.Text(seed, a.roll(300)))
		}
		for range a.roll(4) * min(len(text), 1) {
			text[a.roll(len(text))] = byte(a.roll(256))
		}
		cfg := api.Config{Limit: of(a, 256, 65536, 0, math.MaxInt), Horizon: of[int64](a, 0, 1<<40, -1), Share: of(a, 1, 100, 0, 101)}
		if a.roll(4) == 0 {
			cfg.Num, cfg.Den, cfg.Burst = of[int64](a, 1, 1<<30, math.MaxInt64), of[int64](a, 1, 1<<20, math.MinInt64), of[int64](a, 1, 1<<30, 0)
		}
		ran(t, string(text), of(a, quotas...), cfg)
		run(string(text), of(a, quotas...), api.Config{Limit: int(a.dice[0]), Horizon: int64(a.dice[1]), Share: int(a.dice[2]), Num: int64(a.dice[3]), Den: int64(a.dice[4]), Burst: int64(a.dice[5])})
	}
}

// Long scripts: as many lines as may be, and lines of as many picks as have room.
func TestLongScripts(t *testing.T) {
	a := newAuthor(77)
	lines := a.script(maxLines)[:maxLines]
	want(t, "the spot", ran(t, texts(lines...), maxQuota, usual()).spot, api.Spot{})
	many := "steps" + strings.Repeat(" 0", (maxLine-5)/2)
	got := run(texts("open 1", many, many, many), wide, usual())
	want(t, "steps", strings.Count(got.told, "did 0 0 0 0 0 0\n"), 3*((maxLine-5)/2))
}
