package mirror_test

import (
	"bytes"
	"testing"
	"unsafe"

	"chronicle/api"
	"chronicle/mirror"
	"chronicle/probe"
	"chronicle/simfs"
)

// 22.8, R3: chunks are neither changed nor kept, with the room behind their ends.
func TestChunksAreNotKept(t *testing.T) {
	whole := frames(t, subscribed(1, 0, 4), delivered(1, 3, value(0, "a", "1"), value(1, "b", "two"), value(2, "c", bulk(3))), refused(1, api.OpDeliver, api.CodeHorizonPassed))
	more := frames(t, snapped(2, 9, 4), delivered(2, 9, value(7, "b", "7")), final(2, 9, value(8, "key", "value")))
	for _, size := range []int{1, 7, 50, 1000} {
		k := fresh(t)
		for _, b := range [][]byte{whole, more} {
			k.m.Ask()
			for i := 0; i < len(b); i += size {
				chunk, same := probe.Roomy(string(b[i:min(i+size, len(b))]))
				want(t, "Hear", k.m.Hear(0, chunk), api.OK)
				want(t, "the chunk is the same", same(), true)
				probe.Scribble(chunk)
			}
		}
		k.holds("kept", "b=7 key=value")
	}
}

// 22.8: the source's name is not kept.
func TestSourceIsNotKept(t *testing.T) {
	d, _ := simfs.New(wide)
	name := []byte("source-name")
	m, e := mirror.Open(d, unsafe.String(&name[0], len(name)), 3, usual, 0)
	want(t, "Open", e, api.OK)
	copy(name, "other-names")
	k := &desk{t: t, d: d, m: m}
	k.asks("the name", api.Request{Id: 1, Op: api.OpSubscribe, Topic: "source-name"})
	want(t, "noted", noteOf(t, d.Image(), "source"), "source-name")
	open(t, "again", d, "source-name", 3, usual, 0, api.OK)
}

// 22.8: what is answered is new memory.
func TestAnswersAreNewMemory(t *testing.T) {
	k := copyOf(t, usual, value(0, "a", "1"), value(0, "b", "2"))
	for range 3 {
		pairs := k.m.Pairs()
		want(t, "Pairs", textOf(pairs), "a=1 b=2")
		probe.Scribble(append(pairs, api.Pair{Key: "more"}))
		probe.Scribble(pairs)
	}
	var last []byte
	for range 3 {
		k.m.Lost()
		b := k.m.Ask()
		if last != nil && !bytes.Equal(b, last) {
			t.Errorf("Ask: %x, want %x", b, last)
		}
		last = bytes.Clone(b)
		probe.Scribble(append(b, 1, 2, 3))
		probe.Scribble(b)
	}
	k.hears("it goes on", api.OK, subscribed(1, 7, 4), delivered(1, 9, tomb(8, "a")))
	k.holds("it goes on", "b=2")
}

// R2: two mirrors have nothing in common, though they lie on one disk.
func TestMirrorsAreApart(t *testing.T) {
	d, _ := simfs.New(wide)
	one := &desk{t: t, d: d, m: open(t, "one", d, "t", 3, usual, 0, api.OK), limit: usual}
	other := &desk{t: t, d: d, m: open(t, "other", d, "u", 5, usual, 0, api.OK), limit: usual}
	one.tails("one", 1, 0)
	other.asks("other", api.Request{Id: 1, Op: api.OpSubscribe, Topic: "u"})
	one.hears("one", api.OK, subscribed(1, 0, 4), delivered(1, 2, value(0, "a", "1")))
	other.wantState("other", api.MirTail, 0, 0, 0)
	other.hears("other", api.OK, subscribed(1, 0, 5), delivered(1, 9, value(0, "b", "2")))
	one.holds("one", "a=1")
	other.holds("other", "b=2")
	other.hears("other", api.ErrSource, api.Response{Op: api.OpPing})
	one.hears("one", api.OK, delivered(1, 3))
	one.commits("one")
	one.m, other.m = open(t, "one", d, "t", 3, usual, 0, api.OK), open(t, "other", d, "u", 5, usual, 0, api.OK)
	one.wantState("one", api.MirIdle, 3, 1, 0)
	other.wantState("other", api.MirIdle, 9, 1, 0)
}
