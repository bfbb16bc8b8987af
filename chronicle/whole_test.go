package chronicle_test

import (
	"fmt"
	"maps"
	"slices"
	"strings"
	"testing"

	"chronicle/api"
	"chronicle/cursor"
	"chronicle/manifest"
	"chronicle/probe"
	"chronicle/segment"
	"chronicle/simfs"
)

// The promises of the whole, P1 to P8 and P10, of what scripts tell.

// ending is lines by which a script comes to rest, and all topics are read from the beginning.
func (a *author) ending() []string {
	rest := "steps" + strings.Repeat(" 1 2 3 0", 200)
	lines := []string{"fuse -1", "open 1", rest, "take 1 1073741824", "crash", "check", "state", "open 1", rest}
	for _, name := range []string{"t0", "t1", "t2", "t3", "none"} {
		lines = append(lines, say(1, a.numbered(api.Request{Op: api.OpReplay, Topic: name})))
	}
	return append(lines, rest, "take 1 1073741824", "check", "state")
}

// wantWhole fails unless what is told at a script's ending is the whole of each topic (P3), and nothing is left to be done.
func (w *witness) wantWhole(told string) {
	w.t.Helper()
	for name, s := range w.stories {
		var of *reading
		for _, r := range w.ended {
			if r.of == s && r.op == api.OpReplay {
				of = r
			}
		}
		if of == nil {
			w.t.Errorf("P3: %s was not read", name)
			continue
		}
		want(w.t, "P3: the fold of "+name, fmt.Sprint(cursor.Fold(nil, of.told)), fmt.Sprint(cursor.Fold(nil, s.log)))
		for key, last := range fold(s.log) {
			if !lives(last) && w.clock-last.Time < s.horizon {
				want(w.t, "P3: the tombstone of "+key, slices.Contains(of.told, last), true)
			}
		}
		w.count["records left out"] += len(s.log) - len(of.told)
	}
	steps, rest := told[:strings.LastIndex(told, " got ")], unnumbered(told[strings.LastIndex(told, " take 0\n")+len(" take 0\n"):])
	want(w.t, "P5, P10: at rest", strings.HasPrefix(rest, fmt.Sprintf("check 0\nstate 1 %d 0 0 0\n", len(w.stories))), true)
	want(w.t, "the last step", strings.HasPrefix(steps[strings.LastIndex(steps, " did "):], " did 0 0 0 0 0 0\n"), true)
}

// wantMerged fails if sealed segments hold two records of a key (P5: where each one that is superseded makes a merge due).
func wantMerged(t *testing.T, files []api.File) {
	t.Helper()
	d, _ := simfs.Load(files, maxQuota)
	c, _ := manifest.LoadCatalogue(d)
	for _, topic := range c.Topics {
		m, _ := manifest.Load(d, topic.Id)
		seen := map[string]int{}
		for _, seg := range m.Segs[:len(m.Segs)-1] {
			b, _ := d.Read(segment.Name(topic.Id, seg), 0, maxQuota)
			_, list, _ := segment.Look(b)
			for _, p := range list {
				seen[p.Rec.Key]++
			}
		}
		for key, n := range seen {
			want(t, "P5: records of "+key, n, 1)
		}
	}
}

func TestWhole(t *testing.T) {
	count := map[string]int{}
	for seed := range uint64(150) {
		a := newAuthor(seed + 20000)
		a.plain = true
		lines := append(a.script(400), a.ending()...)
		cfg := api.Config{Limit: of(a, 256, 256, 400), Horizon: int64(of(a, 0, 20, 100)), Share: of(a, 1, 1, 50)}
		got := run(texts(lines...), wide, cfg)
		want(t, "the spot", got.spot, api.Spot{})
		w := newWitness(t, cfg.Horizon, count)
		w.read(lines, got.told)
		w.wantWhole(got.told)
		if cfg.Share == 1 {
			wantMerged(t, got.files)
		}
		if t.Failed() {
			t.Fatalf("the script %d", seed)
		}
	}
	for what, least := range map[string]int{
		"crashes": 300, "lost": 20, "again": 100, "delivered": 500, "passed 2": 1, "heard 5": 1000, "heard 6": 100, "heard 7": 100, "heard 8": 100, "heard 9": 100, "heard 10": 100, "heard 12": 100, "heard 13": 10, "heard 14": 2, "heard 15": 100,
		"13 8": 20, "13 -1": 20, "5 8": 100, "2 3": 50, "3 0": 20, "records left out": 500,
	} {
		if count[what] < least {
			t.Errorf("%s: seen %d times, want %d", what, count[what], least)
		}
	}
	t.Log(count)
}

// P2, P10: the power goes at each operation of a tale, and leaves each of the images that the tests know to make; what was acknowledged is read behind it.
func TestPowerAtEveryOperation(t *testing.T) {
	for what, lines := range tales() {
		for n := range operations(lines) + 1 {
			script := append([]string{fmt.Sprint("fuse ", n)}, lines...)
			_, s := slowly(texts(script...), wide, usual())
			all := probe.Picks(s.disk)
			for i := 0; i < len(all); i += 1 + len(all)/25 {
				wantAcknowledged(t, what, script, all[i])
			}
		}
	}
}

// The same of a short tale, with every image.
func TestEveryImageAtEveryOperation(t *testing.T) {
	lines := []string{"open 1", "say 1 1 create a 0", "say 1 2 put a k v 0 0", "say 1 3 put a l w 3 1", "say 1 4 join g", "steps 0 0 0 0 1", "take 1 999", "say 1 5 delete a k 0 0", "steps 0 1", "say 1 6 commit a g 1 1", "say 1 7 create b 0", "say 1 8 drop a", "say 1 9 put b k v 0 0", "steps 0 1 0 0 0", "take 1 999"}
	seen := map[string]int{}
	for n := range operations(lines) + 1 {
		script := append([]string{fmt.Sprint("fuse ", n)}, lines...)
		_, s := slowly(texts(script...), wide, usual())
		for _, picks := range every(s.disk) {
			wantAcknowledged(t, "a short tale", script, picks)
			seen[probe.Key(s.disk.Crash(picks))]++
		}
	}
	want(t, "there are many images", len(seen) > 300, true)
}

// operations is how many changing operations a script makes, that has no loss of power.
func operations(lines []string) int {
	_, whole := slowly(texts(lines...), wide, usual())
	_, least := slowly("", wide, usual())
	return whole.disk.Ops() - least.disk.Ops()
}

// wantAcknowledged fails unless what is left behind a script and a crash is right, and has all that was acknowledged.
func wantAcknowledged(t *testing.T, what string, script []string, picks []int) {
	t.Helper()
	behind := append(script[:len(script):len(script)], picked(api.VCrash, picks...), "check", "state", "open 1")
	behind = append(behind, "say 1 901 replay a 0", "say 1 902 replay b 0", "say 1 903 position g a", "say 1 904 position g b", "say 1 905 join g", "steps 0 0 0 0 0 1 2 2 2 2 2 2 3 3 3 3", "take 1 99999", "check", "state")
	got := run(texts(behind...), wide, usual())
	w := newWitness(t, usual().Horizon, map[string]int{})
	w.read(behind, got.told)
	w.wantReplayed(901, "a")
	w.wantReplayed(902, "b")
	if t.Failed() {
		t.Fatalf("%s, %s, the picks %v:\n%s", what, script[0], picks, got.told)
	}
}

// wantReplayed fails unless a replay has told the fold of a topic, if there is such a topic.
func (w *witness) wantReplayed(id uint32, name string) {
	w.t.Helper()
	s, r := w.stories[name], w.ended[id]
	want(w.t, "a replay of "+name, r != nil, s != nil)
	if r != nil && s != nil {
		want(w.t, "P3: the fold of "+name, fmt.Sprint(cursor.Fold(nil, r.told)), fmt.Sprint(cursor.Fold(nil, s.log)))
	}
}

// tales is what is done until the power goes.
func tales() map[string][]string {
	grown := []string{"open 1", "say 1 1 create a 0", "say 1 2 put a once v 0 0", "steps 0 0 1"}
	for i := range 7 {
		grown = append(grown, fmt.Sprintf("say 1 %d put a k%d %s 7 %d", i+3, i%2, bulk(i, 90), i+1), "steps 0 1 3 3", "take 1 9999")
	}
	grown = append(grown, "say 1 50 delete a k1 0 0", "tick 200", "say 1 51 put a k2 "+bulk(9, 90)+" 0 0", "steps 0 0 1 3 3 3 3 3 3 3 3 3 3 3 3 3 3 3 3 3 3", "take 1 9999")
	return map[string][]string{
		"merges": grown,
		"topics come and go": {
			"open 1", "say 1 1 create a 0", "say 1 2 put a k v 0 0", "say 1 3 create b 0", "say 1 4 put b k v 0 0", "steps 0 0 0 0 1", "take 1 999", "say 1 5 drop a", "say 1 6 put b l w 0 0",
			"steps 0 0 1", "take 1 999", "say 1 7 create a 5", "say 1 8 put a k again 0 0", "steps 0 0 1", "take 1 999", "say 1 9 drop b", "say 1 10 drop a", "say 1 11 create b 0", "steps 0 0 0", "take 1 99",
		},
		"groups": {
			"open 1", "say 1 1 create a 0", "say 1 2 create b 0", "say 1 3 put a k v 0 0", "say 1 4 put b k v 0 0", "steps 0 0 0 0 1", "say 1 5 join g", "say 1 6 commit a g 1 1", "steps 0 0 1", "take 1 999",
			"say 1 7 join g", "say 1 8 commit a g 0 1", "say 1 9 commit b g 1 2", "say 1 10 commit a g 0 2", "steps 0 0 0 0 1", "take 1 999", "say 1 11 commit b g 0 2", "say 1 12 join g", "steps 0 0 1", "take 1 999",
		},
	}
}

// P6: what is said again, over crashes too, has one offset, and is there once.
func TestSaidAgain(t *testing.T) {
	put := func(id, seq int) string { return fmt.Sprintf("say 1 %d put t k%d v 9 %d", id, seq, seq) }
	for x := range 40 {
		lines := []string{"open 1", "say 1 1 create t 0", put(2, 1), put(3, 1), "steps 0 0 0 1", put(4, 1), put(5, 2), put(6, 2), "steps 0 0 0", fmt.Sprint("crash 0 0 0 0 0 ", x), "check", "state", "open 1", put(7, 2), put(8, 2), put(9, 3), put(10, 2), "steps 0 0 0 1 0", "crash", "check", "state", "open 1", put(11, 3), put(12, 3), "say 1 13 replay t 0", "steps 0 0 0 2", "take 1 9999"}
		got := run(texts(lines...), wide, usual())
		w := newWitness(t, usual().Horizon, map[string]int{})
		w.read(lines, got.told)
		var all []string
		for _, r := range w.ended[13].told {
			all = append(all, fmt.Sprint(r.Offset, r.Pid, r.Seq, r.Key))
		}
		want(t, "in L once", fmt.Sprint(all), "[0 9 1k1 1 9 2k2 2 9 3k3]")
		want(t, "the offsets", strings.Contains(got.told, "got 11 put ok 2 0 last\n"), true)
		want(t, "the offsets", strings.Contains(got.told, "got 12 put ok 2 0 last\n"), true)
	}
}

// P1, 24.5: what is sent does not hang on how what was said is cut, nor on remarks; and each request that was served is answered once.
func TestEachIsAnswered(t *testing.T) {
	for seed := range uint64(60) {
		a := newAuthor(seed + 40000)
		a.plain = true
		var lines []string
		for len(lines) < 200 {
			for _, line := range a.lines() {
				if word, _, _ := strings.Cut(line, " "); slices.Contains([]string{"say", "steps", "take", "tick", ""}, word) {
					lines = append(lines, line)
				}
			}
		}
		lines = append([]string{"open 1", "open 2", "open 3", "say 1 1000 create t0 0", "say 1 1001 create t1 0", "steps 0 0"}, lines...)
		lines = append(lines, "steps"+strings.Repeat(" 0 1 2 3", 300), "take 1 1073741824", "take 2 1073741824", "take 3 1073741824")
		got := run(texts(lines...), wide, usual())
		w := newWitness(t, usual().Horizon, map[string]int{})
		w.read(lines, got.told)
		for _, conn := range slices.Sorted(maps.Keys(w.owes)) {
			want(t, "not answered", len(w.owes[conn]), 0)
		}
		want(t, "some are asked", len(w.served) > 60, true)
	}
}
