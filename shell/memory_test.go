package shell_test

import (
	"bytes"
	"slices"
	"strings"
	"testing"
	"unsafe"

	"chronicle/api"
	"chronicle/probe"
	"chronicle/shell"
)

// 23.4

// loose is a text over bytes that are changed later on.
func loose(b []byte) string { return unsafe.String(unsafe.SliceData(b), len(b)) }

// full is a response with all that one may have.
func full() api.Response {
	return api.Response{
		Id: 9, Op: api.OpDeliver, Offset: 5, Number: -1, More: true,
		Names:   []string{"alpha", "be ta"},
		Records: []api.Record{{Kind: api.KValue, Key: "k", Value: "v"}, {Kind: api.KTombstone, Offset: 1, Key: "l"}, {Kind: 9, Value: "\x00"}},
	}
}

func TestListsHandedInAreNotChanged(t *testing.T) {
	for _, text := range []string{"", "a", "\xc5\x00", probe.Text(1, 2045), probe.Text(2, 2046), probe.Text(3, 5000)} {
		b, same := probe.Roomy(text)
		for verb := range verbWords() {
			if shell.Print(api.Command{Verb: verb, Raw: b}); !same() {
				t.Errorf("Print of %s changes the bytes", verbWords()[verb])
			}
		}
	}
	for _, list := range [][]int{nil, {7}, {0, -1, 7}, make([]int, 2045), make([]int, 5000)} {
		picks, same := probe.Spare(list, 99)
		for verb := range verbWords() {
			if shell.Print(api.Command{Verb: verb, Picks: picks}); !same() {
				t.Errorf("Print of %s changes the picks", verbWords()[verb])
			}
		}
	}
	for _, r := range []api.Response{{}, full()} {
		line := slowShow(r)
		names, sameNames := probe.Spare(r.Names, "odd")
		recs, sameRecs := probe.Spare(r.Records, api.Record{Kind: 9})
		r.Names, r.Records = names, recs
		want(t, "Show", shell.Show(r), line)
		want(t, "the names are as they were", sameNames(), true)
		want(t, "the records are as they were", sameRecs(), true)
	}
}

// What is handed in may be changed later on: no answer shows that, for none has any of its memory.
func TestWhatIsHandedInIsNotKept(t *testing.T) {
	for _, c := range samples() {
		line, _ := slowPrint(c)
		b := []byte(line)
		got, e := shell.Parse(loose(b))
		clear(b)
		if !sameCommand(got, c) || e != api.OK {
			t.Errorf("Parse of %s, written over: %s, %d", brief(line), brief(got), e)
		}
		key, value := []byte(c.Request.Key), []byte(c.Request.Value)
		topic := []byte(c.Request.Topic)
		c.Request.Topic, c.Request.Key, c.Request.Value = loose(topic), loose(key), loose(value)
		c.Raw, c.Picks = bytes.Clone(c.Raw), slices.Clone(c.Picks)
		printed, e := shell.Print(c)
		for _, b := range [][]byte{topic, key, value, c.Raw} {
			clear(b)
		}
		clear(c.Picks)
		want(t, "Print, written over", printed, line)
		want(t, "Print", e, api.OK)
	}
	for _, s := range texts() {
		name, key, value := []byte(s), []byte(s), []byte(s)
		r := api.Response{Op: 4, Names: []string{loose(name)}, Records: []api.Record{{Key: loose(key), Value: loose(value)}}}
		wanted := slowShow(r)
		line := shell.Show(r)
		for _, b := range [][]byte{name, key, value} {
			clear(b)
		}
		clear(r.Names)
		clear(r.Records)
		want(t, "Show, written over", line, wanted)
	}
}

// The texts of a command are not pieces of the line, which would keep all of it.
func TestTextsAreNewMemory(t *testing.T) {
	line := strings.Clone(`say 1 7 put topic "a key" value 0 0`)
	from := uintptr(unsafe.Pointer(unsafe.StringData(line)))
	c, _ := shell.Parse(line)
	for _, s := range []string{c.Request.Topic, c.Request.Key, c.Request.Value} {
		at := uintptr(unsafe.Pointer(unsafe.StringData(s)))
		want(t, s+" lies within the line", from <= at && at < from+uintptr(len(line)), false)
	}
}

func TestListsAreNewMemory(t *testing.T) {
	for _, line := range []string{"raw 1 c500ff", "raw 1 -", "steps 1 2 3 4 5", "crash 7", "steps", "say 1 7 ping"} {
		wanted, _ := slowParse(line)
		first, _ := shell.Parse(line)
		second, _ := shell.Parse(line)
		probe.Scribble(append(first.Raw, "more"...))
		probe.Scribble(append(first.Picks, 8, 9))
		probe.Scribble(first.Raw)
		probe.Scribble(first.Picks)
		want(t, "another answer to "+line, sameCommand(second, wanted), true)
		third, e := shell.Parse(line)
		want(t, "a later answer to "+line, sameCommand(third, wanted), true)
		want(t, "its error", e, api.OK)
		again, _ := shell.Print(second)
		want(t, "its line", again, line)
	}
}
