package chronicle_test

import (
	"fmt"
	"math"
	"testing"

	"chronicle/api"
	"chronicle/broker"
	"chronicle/probe"
	"chronicle/simfs"
)

// 24.2

// beginning is what stands on a new disk, and what refuses it, asked of the layers below.
func beginning(quota int, cfg api.Config) ([]api.File, api.Errno) {
	d, e := simfs.New(quota)
	if e != api.OK {
		return nil, e
	}
	if e := broker.Format(d, cfg, 0); e != api.OK {
		return nil, e
	}
	if _, e := broker.Open(d, cfg, 0); e != api.OK {
		return nil, e
	}
	return d.Image(), api.OK
}

// leastQuota is that of a disk on which there is just room for a store.
func leastQuota(t *testing.T) int {
	for quota := range 1000 {
		if _, e := beginning(quota, usual()); e == api.OK {
			return quota
		}
	}
	t.Fatal("no quota is enough")
	return 0
}

// Without a line that says anything, the answer is the beginning.
func TestBeginning(t *testing.T) {
	files, _ := beginning(wide, usual())
	for _, script := range []string{"", "\n", "# nothing\n", "\n\n#\n"} {
		got := run(script, wide, usual())
		want(t, "the files", probe.Key(got.files), probe.Key(files))
		want(t, "told", got.told, "")
		want(t, "the spot", got.spot, api.Spot{})
	}
	want(t, "the files' names", fmt.Sprint(sizes(files)), "[catalog 11 t0.1.seg 21 t0.man 17]")
	wantTold(t, `
state
check
tick 0
tick 5
`, `
1 state 0 0 0 0 0
2 check 0
3 tick 0
4 tick 5
`)
}

func TestQuotas(t *testing.T) {
	least := leastQuota(t)
	want(t, "some room is needed", least > 20, true)
	for quota := range least + 50 {
		files, e := beginning(quota, usual())
		if quota < least {
			wantRefused(t, "open 1\n", quota, usual(), api.Spot{Err: e})
			wantRefused(t, "", quota, usual(), api.Spot{Err: api.ErrSpace})
			continue
		}
		want(t, "enough", e, api.OK)
		want(t, "the files", probe.Key(ran(t, "", quota, usual()).files), probe.Key(files))
		wantToldBy(t, quota, usual(), "open 1\nstate\ncrash\nstate\n", "1 open 0\n2 state 1 0 0 0 0\n3 crash 0\n4 state 0 0 0 0 0\n")
	}
	for _, quota := range []int{maxQuota - 1, maxQuota} {
		wantToldBy(t, quota, usual(), "open 1\n", "1 open 0\n")
	}
	for _, quota := range []int{-1, -2, math.MinInt, maxQuota + 1, math.MaxInt, -1 << 32} {
		wantRefused(t, "open 1\n", quota, usual(), api.Spot{Err: api.ErrArg})
		wantRefused(t, "", quota, usual(), api.Spot{Err: api.ErrArg})
		wantRefused(t, "open 1\n", quota, api.Config{}, api.Spot{Err: api.ErrArg})
		wantRefused(t, "nothing\n", quota, usual(), api.Spot{Err: api.ErrLine, At: 1})
	}
}

// The quota is that of each later disk too.
func TestQuotaBehindACrash(t *testing.T) {
	for _, quota := range []int{4096 + 49, 4096 + 100, 4096 + 150, 4096 + 200, 4096 + 250, 4096 + 300} {
		script := "open 1\nsay 1 1 create t 0\nsteps 0\ncrash 1 2 3\nopen 1\nsay 1 2 create u 0\n"
		for i := range 9 {
			script += fmt.Sprintf("say 1 %d put t k%d v 0 0\nsteps 0 1\ntake 1 999\n", i+3, i)
		}
		ran(t, script+"crash 1 1 1 1 1\nstate\n", quota, usual())
	}
	wantToldBy(t, 4096+49+40, usual(), `
open 1
say 1 1 create t 0
steps 0
take 1 99
crash
open 1
say 1 2 create t 0
steps 0
take 1 99
say 1 3 put t k v 0 0
steps 0
take 1 99
`, `
1 open 0
2 say 0 1
3 did 1 1 1 2 0 0
4 got 1 create ok 0 1 last
4 take 0
5 crash 0
6 open 0
7 say 0 1
8 did 1 1 0 2 3 0
9 got 2 create exists 0 0 last
9 take 0
10 say 0 1
11 did 1 1 1 5 4 0
12 got 3 put full 0 0 last
12 take 0
`)
}

func TestConfigs(t *testing.T) {
	with := func(change func(*api.Config)) api.Config {
		cfg := usual()
		change(&cfg)
		return cfg
	}
	for _, cfg := range []api.Config{
		with(func(c *api.Config) { c.Limit = 256 }), with(func(c *api.Config) { c.Limit = 65536 }),
		with(func(c *api.Config) { c.Horizon = 0 }), with(func(c *api.Config) { c.Horizon = 1 << 40 }),
		with(func(c *api.Config) { c.Share = 1 }), with(func(c *api.Config) { c.Share = 100 }),
		with(func(c *api.Config) { c.Num, c.Den, c.Burst = 1, 1, 1 }),
		with(func(c *api.Config) { c.Num, c.Den, c.Burst = 1<<30, 1<<20, 1<<30 }),
	} {
		wantToldBy(t, wide, cfg, "open 1\ncrash\nstate\n", "1 open 0\n2 crash 0\n3 state 0 0 0 0 0\n")
	}
	for _, cfg := range []api.Config{
		{},
		with(func(c *api.Config) { c.Limit = 255 }), with(func(c *api.Config) { c.Limit = 65537 }), with(func(c *api.Config) { c.Limit = math.MinInt }), with(func(c *api.Config) { c.Limit = math.MaxInt }),
		with(func(c *api.Config) { c.Horizon = -1 }), with(func(c *api.Config) { c.Horizon = 1<<40 + 1 }), with(func(c *api.Config) { c.Horizon = math.MinInt64 }), with(func(c *api.Config) { c.Horizon = math.MaxInt64 }),
		with(func(c *api.Config) { c.Share = 0 }), with(func(c *api.Config) { c.Share = 101 }), with(func(c *api.Config) { c.Share = -50 }), with(func(c *api.Config) { c.Share = math.MaxInt }),
		with(func(c *api.Config) { c.Num = 1 }), with(func(c *api.Config) { c.Den = 1 }), with(func(c *api.Config) { c.Burst = 1 }),
		with(func(c *api.Config) { c.Num, c.Den, c.Burst = -1, 1, 1 }), with(func(c *api.Config) { c.Num, c.Den, c.Burst = 1, 0, 1 }), with(func(c *api.Config) { c.Num, c.Den, c.Burst = 1, 1, 1<<30+1 }),
		with(func(c *api.Config) { c.Num, c.Den, c.Burst = math.MinInt64, math.MaxInt64, math.MinInt64 }),
	} {
		wantRefused(t, "open 1\n", wide, cfg, api.Spot{Err: api.ErrConfig})
		wantRefused(t, "", wide, cfg, api.Spot{Err: api.ErrConfig})
		wantRefused(t, "open 1\n", 10, cfg, api.Spot{Err: api.ErrConfig})
		wantRefused(t, "\nnothing", wide, cfg, api.Spot{Err: api.ErrLine, At: 2})
	}
}

// The config is that of each opening: a limit of segments, a share at which merges are due, tokens.
func TestConfigIsKept(t *testing.T) {
	throttled := api.Config{Limit: 256, Horizon: 100, Share: 50, Num: 1, Den: 10, Burst: 1}
	wantToldBy(t, wide, throttled, `
open 1
say 1 1 ping
say 1 2 ping
steps 0 0
take 1 999
tick 9
say 1 3 ping
steps 0
tick 1
say 1 4 ping
steps 0
take 1 999
tick 3
crash
open 1
say 1 5 ping
say 1 6 ping
steps 0 0
take 1 999
`, `
1 open 0
2 say 0 1
3 say 0 1
4 did 1 1 0 1 0 0
4 did 1 1 0 1 7 0
5 got 1 ping ok 0 0 last
5 got 2 ping throttled 0 10 last
5 take 0
6 tick 9
7 say 0 1
8 did 1 1 0 1 7 0
9 tick 10
10 say 0 1
11 did 1 1 0 1 0 0
12 got 3 ping throttled 0 1 last
12 got 4 ping ok 0 0 last
12 take 0
13 tick 13
14 crash 0
15 open 0
16 say 0 1
17 say 0 1
18 did 1 1 0 1 0 0
18 did 1 1 0 1 7 0
19 got 5 ping ok 0 0 last
19 got 6 ping throttled 0 10 last
19 take 0
`)
	for _, share := range []int{1, 50, 100} {
		for _, limit := range []int{256, 300, 65536} {
			behind := append([]string{"crash 1 2 3", "check"}, merging(8)...)
			ran(t, texts(append(merging(8), behind...)...), wide, api.Config{Limit: limit, Horizon: 5, Share: share})
		}
	}
}

// merging is the lines of a script that writes two keys again and again, and one but once, and lets merges go on.
func merging(rounds int) []string {
	lines := []string{"open 1", "say 1 1 create t 0", "say 1 2 put t once v 0 0", "steps 0 0 1"}
	for i := range rounds {
		lines = append(lines, fmt.Sprintf("say 1 %d put t k%d %s 0 0", i+3, i%2, bulk(i, 90)), "steps 0 1 3", "tick 1")
	}
	return append(lines, "check", "steps 3 3 3 3 3 3 3 3 3 3 3 3 3 3 3 3 3 3", "check", "state")
}
