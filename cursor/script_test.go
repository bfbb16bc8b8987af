package cursor_test

import (
	"fmt"
	"slices"
	"testing"

	"chronicle/api"
	"chronicle/cursor"
	"chronicle/probe"
)

// size is how great a piece may be.
func size(x uint64) (most, bytes int) {
	return []int{1, 1, 2, 3, 5, 1000}[x%6], []int{1, 20, 60, 100, 1 << 20, 1 << 20}[x>>4%6]
}

// act does something.
func (w *world) act(x uint64) {
	most, bytes := size(x >> 40)
	switch x >> 4 % 32 {
	case 0, 1, 2, 3, 4, 5:
		w.append(x >> 12)
	case 6, 7, 8:
		want(w.t, "Commit", w.p.Commit(), api.OK)
	case 9:
		want(w.t, "Roll", w.p.Roll(), api.OK)
	case 10, 11:
		from := int64(x >> 12 % uint64(w.p.State().Committed+2))
		if x>>24%2 == 0 {
			from = max(0, w.mark-1+int64(x>>28%3))
		}
		w.begin(from, x>>32%4 > 0)
	case 12:
		w.begin(0, x>>32%4 > 0)
	case 13:
		w.take([]string{"", "", "a", "ab", "\xff", "none"}[x>>12%6])
	case 14, 15:
		if len(w.snaps) > 0 {
			w.tell(w.snaps[x>>12%uint64(len(w.snaps))], most, bytes)
		}
	case 16, 17, 18, 19, 20, 21, 22, 23:
		if len(w.readers) > 0 {
			w.read(w.readers[x>>12%uint64(len(w.readers))], most, bytes)
		}
	case 24, 25:
		if len(w.readers) > 0 {
			r := w.readers[x>>12%uint64(len(w.readers))]
			for r.state == api.CurOpen && r.at < w.p.State().Committed {
				w.read(r, most, bytes)
			}
		}
	default:
		w.step(w.p.Tick(-1) + int64(x>>12%3))
	}
}

// 12.1 to 12.5, 12.8, 12.10, 12.11: whatever is appended, committed, rolled and merged between a reader's pieces.
func TestAgainstTheModel(t *testing.T) {
	count := map[string]int{}
	for seed := range uint64(300) {
		w := newWorld(t, int64(seed%4*6), count)
		for i, x := range probe.Noise(seed+1, 300) {
			w.act(x >> 3)
			w.wantStanding()
			if t.Failed() {
				t.Fatalf("seed %d, action %d", seed, i)
			}
		}
		w.wantEnding(seed%2 == 0)
		if t.Failed() {
			t.Fatalf("seed %d, at its end", seed)
		}
	}
	for _, what := range []string{"merged", "passed", "waits", "below the mark", "below a mark that was seen", "beyond", "state 0", "state 1", "state 2", "snapshot 0", "snapshot 1", "to be read", "nothing to be read"} {
		if count[what] < 60 {
			t.Errorf("%s: only %d times of %v", what, count[what], count)
		}
	}
}

// wantEnding drops the topic, or takes its power away, and fails unless its readers say so, and its snapshots all that they have to.
func (w *world) wantEnding(drop bool) {
	w.t.Helper()
	left := map[*reader]int{}
	for _, r := range w.readers {
		left[r] = len(w.left(r.at))
	}
	if drop {
		want(w.t, "Drop", w.p.Drop(), api.OK)
	} else {
		unpower(w.t, w.d)
	}
	for _, r := range w.readers {
		passed := r.at > 0 && r.at < w.mark && r.seen < w.mark
		switch {
		case r.state != api.CurOpen:
			wantPiece(w.t, "over", r.c, 1, 1, r.at, r.state)
		case drop:
			wantNoPiece(w.t, "dropped", r.c, 1, 1, api.ErrGone)
			want(w.t, "dropped: Waits", r.c.Waits(), r.tail && r.at == 0)
		case passed:
			wantPiece(w.t, "passed", r.c, 1, 1, r.at, api.CurPassed)
		case left[r] > 0:
			wantNoPiece(w.t, "no power", r.c, 1, 1, api.ErrDead)
			w.count["to be read"]++
		default:
			w.read(r, 1, 1)
			w.count["nothing to be read"]++
		}
		want(w.t, "Close", r.c.Close(), api.OK)
	}
	for i, h := range w.snaps {
		for len(h.pairs) > 0 {
			most, bytes := size(uint64(i * 7))
			w.tell(h, most, bytes)
		}
		want(w.t, "Close", h.s.Close(), api.OK)
	}
}

// written is a world to which something has been done.
func written(t *testing.T, seed uint64, n int) *world {
	t.Helper()
	w := newWorld(t, int64(seed%5*4), map[string]int{})
	for _, x := range probe.Noise(seed+1, n) {
		switch x >> 4 % 8 {
		case 0, 1, 2, 3:
			w.append(x >> 12)
		case 4:
			want(t, "Commit", w.p.Commit(), api.OK)
		case 5:
			w.p.Tick(w.p.Tick(-1) + int64(x>>12%4))
		default:
			w.step(0)
		}
	}
	want(t, "Commit", w.p.Commit(), api.OK)
	return w
}

// whole is all that a cursor tells, in pieces of a size; something is done between them.
func (w *world) whole(c *cursor.Cursor, most, bytes int, between func()) ([]api.Record, int) {
	w.t.Helper()
	var recs []api.Record
	for range 1000 {
		left := w.left(0)
		piece, e := c.Next(most, bytes)
		want(w.t, "Next", e, api.OK)
		for _, r := range piece.Recs {
			want(w.t, "it was left when it was told: "+brief(r), slices.Contains(left, r), true)
		}
		recs = append(recs, piece.Recs...)
		if piece.State != api.CurOpen {
			return recs, piece.State
		}
		between()
	}
	w.t.Fatal("a replay without an end")
	return nil, 0
}

// 12.9, P3, while nothing is appended, and merges go on.
func TestReplaysFoldToTheSnapshot(t *testing.T) {
	states, changed := map[int]int{}, 0
	for seed := range uint64(400) {
		w := written(t, seed, 120)
		log := w.committed()
		quiet := w.m == nil && seed%3 == 0
		most, bytes := size(seed * 5)
		c := replayed(t, w.p, 0)
		s, e := cursor.Snapshot(w.p)
		want(t, "Snapshot", e, api.OK)
		want(t, "Moment", s.Moment(), int64(len(log)))
		left := w.left(0)
		recs, state := w.whole(c, most, bytes, func() {
			for i := uint64(0); !quiet && i < 1+seed%9; i++ {
				w.step(w.p.Tick(-1) + int64(i%2))
			}
		})
		states[state]++
		if state == api.CurPassed { // it is not whole
			continue
		}
		if quiet {
			wantList(t, "what is left", recs, left)
		} else if len(w.left(0)) < len(left) {
			changed++
		}
		pairs, _, _ := s.Next(9999, 1<<30)
		wantList(t, "the fold", cursor.Fold(nil, recs), pairs)
		wantList(t, "the fold of all", cursor.Fold(nil, log), pairs)
		wantList(t, "the fold of all, by hand", living(log, ""), pairs)
		if t.Failed() {
			t.Fatalf("seed %d", seed)
		}
	}
	if states[api.CurEnd] < 150 || states[api.CurPassed] < 10 || changed < 10 {
		t.Errorf("states: %v; merged while it was read: %d", states, changed)
	}
}

// 12.12
func TestSizesChangeNothing(t *testing.T) {
	for seed := range uint64(60) {
		w := written(t, seed, 100)
		end := w.p.State().Committed
		for _, from := range []int64{0, w.mark, w.mark + 1, end / 2, end - 1, end} {
			if from < 0 || from > end || from > 0 && from < w.mark {
				continue
			}
			right := w.left(from)
			for x := range uint64(36) {
				most, bytes := size(x + x/6<<4)
				recs, state := w.whole(replayed(t, w.p, from), most, bytes, func() {})
				want(t, "the state", state, api.CurEnd)
				wantList(t, fmt.Sprintf("seed %d, from %d on, in pieces of %d, %d", seed, from, most, bytes), recs, right)
			}
		}
		for _, prefix := range []string{"", "a", "ab", "\xff", "none"} {
			for x := range uint64(36) {
				most, bytes := size(x + x/6<<4)
				h := &held{taken(t, w.p, prefix, end), living(w.committed(), prefix), end}
				for again := true; again; again = len(h.pairs) > 0 {
					w.tell(h, most, bytes)
				}
			}
		}
		if t.Failed() {
			t.FailNow()
		}
	}
}

// 12.11: a tail is passed by the first tombstone that is dropped at its position or behind, and by none below; one at 0 by none.
func TestPassedByWhichTombstone(t *testing.T) {
	for dropped := range int64(8) {
		for from := range int64(10) {
			var recs []api.Record
			for i := range int64(9) {
				r := at(20, put(i, fmt.Sprint("k", i), "v"))
				if i <= dropped {
					r.Time = 0
				}
				if i == dropped {
					r = gone(i, r.Key)
				}
				recs = append(recs, r)
			}
			_, p := holding(t, recs...)
			c := tailed(t, p, from)
			compact(t, p, 20, dropped+1)
			piece, e := c.Next(1, 1)
			want(t, "Next", e, api.OK)
			want(t, fmt.Sprintf("at %d, %d is dropped: it is passed", from, dropped), piece.State == api.CurPassed, 0 < from && from <= dropped)
		}
	}
}
