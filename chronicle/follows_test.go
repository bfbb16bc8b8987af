package chronicle_test

import (
	"fmt"
	"slices"
	"strings"
	"testing"

	"chronicle/api"
	"chronicle/probe"
	"chronicle/shell"
)

// 24.5: what a longer text tells begins with what its first lines tell, as long as no later line is wrong.
func TestFirstLines(t *testing.T) {
	for seed := range uint64(40) {
		a := newAuthor(seed + 300)
		quota, cfg := a.settings()
		lines := a.script(90)
		whole := run(texts(lines...), quota, cfg)
		last := ""
		for n := range len(lines) + 1 {
			part := run(texts(lines[:n]...), quota, cfg)
			want(t, "it goes on", strings.HasPrefix(part.told, last), true)
			want(t, "a first part", strings.HasPrefix(whole.told, part.told), true)
			last = part.told
		}
		want(t, "all of it", last, whole.told)
		wantRefused(t, texts(append(lines, "nothing")...), quota, cfg, api.Spot{Err: api.ErrLine, At: len(lines) + 1})
	}
}

// Empty lines and remarks change nothing but the numbers.
func TestRemarksChangeNothing(t *testing.T) {
	for seed := range uint64(60) {
		a := newAuthor(seed + 400)
		quota, cfg := a.settings()
		lines := a.script(120)
		var less, more []string
		for _, line := range lines {
			if line == "" || line[0] == '#' {
				continue
			}
			less = append(less, line)
			more = append(more, slices.Repeat([]string{of(a, "", "#", "# x")}, a.roll(3))...)
			more = append(more, line)
		}
		one, two, three := run(texts(lines...), quota, cfg), run(texts(less...), quota, cfg), run(texts(more...), quota, cfg)
		want(t, "told", unnumbered(one.told), unnumbered(two.told))
		want(t, "told", unnumbered(one.told), unnumbered(three.told))
		want(t, "the files", probe.Key(one.files), probe.Key(two.files))
		want(t, "the files", probe.Key(one.files), probe.Key(three.files))
	}
}

// cutting is the lines of a script in which the bytes of each VRaw are cut into several, and how many requests each of the lines' bytes brought.
func (a *author) cutting(lines []string) []string {
	var list []string
	for _, line := range lines {
		c, _ := shell.Parse(line)
		if c.Verb != api.VRaw {
			list = append(list, line)
			continue
		}
		b := c.Raw
		for range a.roll(4) {
			n := a.roll(len(b) + 1)
			list = append(list, raw(c.Conn, b[:n]))
			b = b[n:]
		}
		list = append(list, raw(c.Conn, b))
	}
	return list
}

// without is what was told, without the numbers ahead and without the lines of one verb.
func without(told, verb string) string {
	lines := slices.DeleteFunc(slowLines(unnumbered(told)), func(line string) bool { return strings.HasPrefix(line, verb+" ") })
	return texts(lines...)
}

// 24.6: the bytes of a VRaw that are cut into several bring the same answers, the same steps and the same files.
func TestAnyChunking(t *testing.T) {
	for seed := range uint64(150) {
		a := newAuthor(seed + 600)
		quota, cfg := a.settings()
		lines := a.script(120)
		whole := ran(t, texts(lines...), quota, cfg)
		for range 3 {
			cut := run(texts(a.cutting(lines)...), quota, cfg)
			want(t, "told", without(cut.told, "raw"), without(whole.told, "raw"))
			want(t, "the files", probe.Key(cut.files), probe.Key(whole.files))
			want(t, "the spot", cut.spot, whole.spot)
		}
		if t.Failed() {
			t.Fatalf("the script %d", seed)
		}
	}
}

// 24.6, of one stream with what there may be in it: cut at any two places, and byte by byte.
func TestEachCut(t *testing.T) {
	put := frame(api.Request{Id: 2, Op: api.OpPut, Topic: "t", Key: "k", Value: "v"})
	spoilt := append([]byte{}, put...)
	spoilt[12] ^= 2
	huge := append([]byte{0xc5, 0, 0, 0x0f, 0xf8}, make([]byte, 40)...) // the rest of it never comes
	for what, stream := range map[string][]byte{
		"frames":         append(frame(api.Request{Id: 1, Op: api.OpCreate, Topic: "t"}), put...),
		"a spoilt one":   append(append(append(frame(api.Request{Id: 1, Op: api.OpCreate, Topic: "t"}), spoilt...), put...), 0xc5),
		"it is given up": append(append(append(frame(api.Request{Id: 1, Op: api.OpCreate, Topic: "t"}), put...), 0), put...),
		"one too long":   append(append(frame(api.Request{Id: 1, Op: api.OpCreate, Topic: "t"}), put...), huge...),
	} {
		script := func(pieces ...[]byte) string {
			lines := []string{"open 1"}
			for _, piece := range pieces {
				lines = append(lines, raw(1, piece))
			}
			return texts(append(lines, "take 1 999", "steps 0 0 1", "take 1 999", "state", "check")...)
		}
		whole := run(script(stream), wide, usual())
		same := func(pieces ...[]byte) {
			cut := run(script(pieces...), wide, usual())
			want(t, what, without(cut.told, "raw"), without(whole.told, "raw"))
			want(t, what, probe.Key(cut.files), probe.Key(whole.files))
		}
		want(t, what, strings.Contains(whole.told, " got 2 put ok 0 0 last\n"), true)
		for i := range len(stream) + 1 {
			for j := i; j <= len(stream); j++ {
				same(stream[:i], stream[i:j], stream[j:])
			}
		}
		var bytes [][]byte
		for i := range stream {
			bytes = append(bytes, stream[i:i+1], nil)
		}
		same(bytes...)
	}
}

// How bytes are taken does not matter either: the same is told, but for the lines of the takes.
func TestAnyTaking(t *testing.T) {
	script := func(takes ...int) string {
		lines := []string{"open 1", "say 1 1 create t 0", "say 1 2 put t k v 0 0", "say 1 3 get t k", "say 1 4 stat t", "steps 0 0 1 0 0"}
		for _, n := range takes {
			lines = append(lines, fmt.Sprint("take 1 ", n))
		}
		return texts(append(lines, "take 1 9999")...)
	}
	whole := without(run(script(), wide, usual()).told, "take")
	for i := range 100 {
		for j := range 40 {
			want(t, "told", without(run(script(i, j), wide, usual()).told, "take"), whole)
		}
	}
}
