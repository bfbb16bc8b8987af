package cursor_test

import (
	"slices"
	"testing"

	"chronicle/api"
	"chronicle/cursor"
	"chronicle/probe"
)

// 12.7

func TestListsHandedInAreNotChanged(t *testing.T) {
	recs := append(four(), put(4, "b", "anew"), gone(5, "z"))
	for n := range len(recs) + 1 {
		start := []api.Pair{said("z", "1"), said("a", "2"), said("z", "3"), said("b", "4")}
		first, same := probe.Spare(start, said("odd", "one"))
		then, alike := probe.Spare(recs[:n], gone(77, "x"))
		made := cursor.Fold(first, then)
		kept := slices.Clone(made)
		probe.Scribble(append(made, said("more", "")))
		probe.Scribble(made)
		if !same() || !alike() {
			t.Errorf("%d records: the lists are changed, or what is behind them", n)
		}
		again := cursor.Fold(first, then)
		probe.Scribble(first)
		probe.Scribble(then)
		wantList(t, "behind a change of what was handed in", again, kept)
	}
}

// Nothing changes in a start that is folded as it is.
func TestFoldOfNoRecordsIsNewMemory(t *testing.T) {
	start := []api.Pair{said("a", "1"), said("b", "2")}
	made := cursor.Fold(start, nil)
	probe.Scribble(made)
	wantList(t, "the start", start, []api.Pair{said("a", "1"), said("b", "2")})
}

// What is answered may be written into, and appended to.
func TestPiecesAreNewMemory(t *testing.T) {
	_, p := holding(t, append(four(), fifth())...)
	for what, f := range beginnings() {
		one, two := begun(t, f, p, 0), begun(t, f, p, 0)
		var kept []api.Record
		for range 3 {
			piece, _ := one.Next(2, 999)
			other, _ := two.Next(2, 999)
			probe.Scribble(append(piece.Recs, api.Record{Offset: 9}))
			probe.Scribble(piece.Recs)
			kept = append(kept, other.Recs...)
		}
		wantList(t, what+": of another one", kept, append(four(), fifth()))
		wantPiece(t, what+": a new one", begun(t, f, p, 0), 4, 999, 4, api.CurOpen, four()...)
	}
	recs, _ := p.Records()
	wantList(t, "the topic's records", recs, append(four(), fifth()))
}

func TestPairsAreNewMemory(t *testing.T) {
	_, p := holding(t, append(four(), fifth())...)
	right := []api.Pair{pair(four()[1]), pair(four()[3]), pair(fifth())}
	for n := 1; n <= 3; n++ {
		s, other := taken(t, p, "", 5), taken(t, p, "", 5)
		pairs, _, _ := s.Next(n, 999)
		kept := slices.Clone(pairs)
		probe.Scribble(append(pairs, said("more", ""), said("and more", "")))
		probe.Scribble(pairs)
		rest, _, _ := s.Next(9, 999)
		wantList(t, "what comes behind", slices.Concat(kept, rest), right)
		wantPairs(t, "another one", other, 9, 999, api.CurEnd, right...)
	}
}

// What was answered stays as it is, whatever is done to the reader and to the topic.
func TestAnswersOutliveChanges(t *testing.T) {
	_, p := holding(t, four()...)
	c, s := replayed(t, p, 0), taken(t, p, "", 4)
	piece, _ := c.Next(2, 999)
	pairs, _, _ := s.Next(1, 999)
	recs, kept := slices.Clone(piece.Recs), slices.Clone(pairs)
	c.Next(9, 999)
	s.Next(9, 999)
	add(t, p, fifth())
	compact(t, p, 20, 3)
	c.Close()
	s.Close()
	p.Drop()
	wantList(t, "the records", piece.Recs, recs)
	wantList(t, "the pairs", pairs, kept)
}

// Readers change nothing in a topic, nor on its disk.
func TestReadersChangeNothing(t *testing.T) {
	d, p := holding(t, four()...)
	lay(t, p, fifth())
	state, ops, image := p.State(), d.Ops(), probe.Key(d.Image())
	c, z, s := replayed(t, p, 0), tailed(t, p, 0), taken(t, p, "", 4)
	for range 6 {
		c.Next(1, 1)
		z.Next(1, 1)
		z.Waits()
		s.Next(1, 1)
	}
	c.Close()
	z.Close()
	s.Close()
	want(t, "the topic", p.State(), state)
	want(t, "operations", d.Ops(), ops)
	want(t, "the disk", probe.Key(d.Image()) == image, true)
}
