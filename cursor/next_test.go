package cursor_test

import (
	"fmt"
	"math"
	"testing"

	"chronicle/api"
	"chronicle/cursor"
	"chronicle/record"
)

// 12.2

// Examples 1, 2 and 5.
func TestPieces(t *testing.T) {
	_, p := holding(t, four()...)
	c, all, one := replayed(t, p, 0), replayed(t, p, 0), replayed(t, p, 3)
	wantPiece(t, "the first piece", c, 2, 9999, 2, api.CurOpen, four()[:2]...)
	tail := tailed(t, p, 4)
	wantPiece(t, "a tail at the end", tail, 9, 9999, 4, api.CurOpen)
	want(t, "it waits", tail.Waits(), true)
	lay(t, p, fifth())
	wantPiece(t, "what is pending is not told", tail, 9, 9999, 4, api.CurOpen)
	want(t, "it waits still", tail.Waits(), true)
	want(t, "Commit", p.Commit(), api.OK)
	want(t, "it does not wait", tail.Waits(), false)
	wantPiece(t, "a tail goes on", tail, 9, 9999, 5, api.CurOpen, fifth())
	want(t, "it waits again", tail.Waits(), true)
	wantPiece(t, "the second piece", c, 9, 9999, 4, api.CurEnd, four()[2:]...)
	wantPiece(t, "all in one", all, 9, 9999, 4, api.CurEnd, four()...)
	wantPiece(t, "from 3 on", one, 9, 9999, 4, api.CurEnd, four()[3])
	for range 2 {
		wantPiece(t, "behind its end", c, 9, 9999, 4, api.CurEnd)
		want(t, "a replay never waits", c.Waits(), false)
	}
	wantPiece(t, "a new one", replayed(t, p, 0), 9, 9999, 5, api.CurEnd, append(four(), fifth())...)
}

// The end lies within what the topic tells: at each place, and whatever the sizes are.
func TestReplaysEndWhereTheyEnd(t *testing.T) {
	recs := append(four(), fifth(), at(12, put(5, "a", "6")), at(12, gone(6, "zz")))
	for end := range len(recs) {
		for from := range end + 1 {
			for most := 1; most < 9; most++ {
				_, p := holding(t, recs[:end]...)
				c := replayed(t, p, int64(from))
				add(t, p, recs[end:]...)
				at, state := from, api.CurOpen
				if at == end {
					state = api.CurEnd
				}
				want(t, "the state at the beginning", c.State(), state)
				for state == api.CurOpen {
					next := min(at+most, end)
					if next == end {
						state = api.CurEnd
					}
					wantPiece(t, fmt.Sprintf("of %d..%d from %d on", from, end, at), c, most, 9999, int64(next), state, recs[at:next]...)
					at = next
				}
				wantPiece(t, "behind its end", c, most, 9999, int64(end), api.CurEnd)
			}
		}
	}
}

// Records of which a merge has left nothing below the end, or not the last ones.
func TestReplaysOfWhatIsNotLeft(t *testing.T) {
	recs := []api.Record{put(0, "a", "1"), put(1, "b", "1"), put(2, "b", "2"), put(3, "c", "1")}
	later := []api.Record{put(4, "b", "3"), put(5, "c", "2"), put(6, "d", "1")}
	_, p := holding(t, recs...)
	one, two, last := replayed(t, p, 0), replayed(t, p, 0), replayed(t, p, 3)
	tail := tailed(t, p, 1)
	add(t, p, later...)
	compact(t, p, 0, 0) // 0, 4, 5 and 6 are left
	wantPiece(t, "one at a time", one, 1, 1, 1, api.CurOpen, recs[0])
	wantPiece(t, "what comes behind the end is not told", one, 1, 1, 4, api.CurEnd)
	wantPiece(t, "all in one", two, 4, 999, 4, api.CurEnd, recs[0])
	wantPiece(t, "nothing is left", last, 1, 1, 4, api.CurEnd)
	wantPiece(t, "a tail", tail, 1, 1, 5, api.CurOpen, later[0])
	wantPiece(t, "a tail", tail, 2, 999, 7, api.CurOpen, later[1:]...)
}

// At most so many records, and so many of their bytes, but one in any case.
func TestSizesOfPieces(t *testing.T) {
	recs := append(four(), fifth())
	_, p := holding(t, recs...)
	for from := range recs {
		bytes := 0
		for n, r := range recs[from:] {
			bytes += record.Size(r)
			state, next := api.CurOpen, int64(from+n+1)
			if next == 5 {
				state = api.CurEnd
			}
			right := recs[from : from+n+1]
			for _, most := range []int{n + 1, math.MaxInt} {
				wantPiece(t, "they just fit", replayed(t, p, int64(from)), most, bytes, next, state, right...)
				wantPiece(t, "they just fit", tailed(t, p, int64(from)), most, bytes, next, api.CurOpen, right...)
			}
			wantPiece(t, "so many", replayed(t, p, int64(from)), n+1, math.MaxInt, next, state, right...)
			if n > 0 {
				wantPiece(t, "one byte more", replayed(t, p, int64(from)), 9, bytes-1, next-1, api.CurOpen, right[:n]...)
				wantPiece(t, "one byte more", tailed(t, p, int64(from)), 9, bytes-1, next-1, api.CurOpen, right[:n]...)
			}
		}
		wantPiece(t, "one in any case", tailed(t, p, int64(from)), math.MaxInt, 1, int64(from+1), api.CurOpen, recs[from])
	}
}

// Sizes that no piece has are refused in each state but a closed one's, ahead of all else.
func TestWrongSizes(t *testing.T) {
	d, p := holding(t, four()...)
	lost := tailed(t, p, 1)
	passed := tailed(t, p, 2)
	compact(t, p, 20, 3)
	wantPiece(t, "passed", passed, 1, 1, 2, api.CurPassed)
	some := map[string]*cursor.Cursor{
		"open": replayed(t, p, 0), "a tail": tailed(t, p, 0), "waits": tailed(t, p, 4), "at its end": replayed(t, p, 4),
		"passed": passed, "passed, and not told": lost,
	}
	check := func(what string) {
		for name, c := range some {
			for _, size := range wrongSizes() {
				wantNoPiece(t, name+what, c, size[0], size[1], api.ErrArg)
			}
		}
	}
	check("")
	want(t, "it is open still", lost.State(), api.CurOpen)
	unpower(t, d)
	check(", without power")
	p.Drop()
	check(", dropped")
	wantPiece(t, "it is passed", passed, 1, 1, 2, api.CurPassed)
}

// Without a cursor.
func TestNilCursors(t *testing.T) {
	for what, c := range map[string]*cursor.Cursor{"nil": nil, "zero": {}} {
		for range 2 {
			for _, size := range append(wrongSizes(), [2]int{1, 1}, [2]int{9, 9999}) {
				wantNoPiece(t, what, c, size[0], size[1], api.ErrNil)
			}
			want(t, what+": Position", c.Position(), 0) // 12.3
			want(t, what+": State", c.State(), api.CurClosed)
			want(t, what+": Waits", c.Waits(), false)
			want(t, what+": Close", c.Close(), api.ErrNil)
		}
	}
}

// Without power a cursor stands where it stood; one that has nothing to read goes on.
func TestPiecesWithoutPower(t *testing.T) {
	d, p := holding(t, four()...)
	some := map[string]*cursor.Cursor{"a replay": replayed(t, p, 0), "a tail": tailed(t, p, 0), "a tail within": tailed(t, p, 3)}
	wantPiece(t, "ahead of it", some["a replay"], 1, 1, 1, api.CurOpen, four()[0])
	end, waits := replayed(t, p, 4), tailed(t, p, 4)
	unpower(t, d)
	for range 2 {
		for what, c := range some {
			for _, size := range []int{1, 9, math.MaxInt} {
				wantNoPiece(t, what, c, size, size, api.ErrDead)
			}
			want(t, what+": the state", c.State(), api.CurOpen)
		}
		wantPiece(t, "at its end", end, 1, 1, 4, api.CurEnd)
		wantPiece(t, "waits", waits, 1, 1, 4, api.CurOpen)
		want(t, "it waits", waits.Waits(), true)
	}
	for what, c := range some {
		want(t, what+": Close", c.Close(), api.OK)
		wantNoPiece(t, what+": closed", c, 1, 1, api.ErrClosed)
	}
}

// In a dropped topic those that are at their end, or passed, say so still.
func TestPiecesOfADroppedTopic(t *testing.T) {
	_, p := holding(t, four()...)
	replay, tail, zero, waits, end := replayed(t, p, 1), tailed(t, p, 3), tailed(t, p, 0), tailed(t, p, 4), replayed(t, p, 4)
	passed, lost := tailed(t, p, 1), tailed(t, p, 2)
	compact(t, p, 20, 3)
	wantPiece(t, "passed", passed, 1, 1, 1, api.CurPassed)
	want(t, "Drop", p.Drop(), api.OK)
	for range 2 {
		for what, c := range map[string]*cursor.Cursor{"a replay": replay, "a tail": tail, "at 0": zero, "waits": waits, "not told that it is passed": lost} {
			wantNoPiece(t, what, c, 1, 1, api.ErrGone)
			want(t, what+": the state", c.State(), api.CurOpen)
			want(t, what+": it waits", c.Waits(), c == zero) // 12.3
		}
		wantPiece(t, "at its end", end, 1, 1, 4, api.CurEnd)
		wantPiece(t, "passed", passed, 1, 1, 1, api.CurPassed)
	}
}

// A replay at 0 does not wait, whatever the topic says.
func TestReplaysNeverWait(t *testing.T) {
	_, p := holding(t, four()...)
	c := replayed(t, p, 0)
	want(t, "Drop", p.Drop(), api.OK)
	want(t, "it waits", c.Waits(), false)
}

// 12.3
func TestClose(t *testing.T) {
	d, p := holding(t, four()...)
	within := replayed(t, p, 0)
	wantPiece(t, "a piece", within, 2, 999, 2, api.CurOpen, four()[:2]...)
	passed := tailed(t, p, 1)
	compact(t, p, 20, 3)
	wantPiece(t, "passed", passed, 1, 1, 1, api.CurPassed)
	some := map[int64][]*cursor.Cursor{
		0: {replayed(t, p, 0), tailed(t, p, 0)},
		1: {passed},
		2: {within},
		3: {tailed(t, p, 3)},
		4: {replayed(t, p, 4), tailed(t, p, 4)},
	}
	state, ops := p.State(), d.Ops()
	for at, list := range some {
		for _, c := range list {
			what := fmt.Sprintf("at %d", at)
			want(t, what+": Close", c.Close(), api.OK)
			for range 2 {
				want(t, what+": Close once more", c.Close(), api.ErrClosed)
				want(t, what+": Position", c.Position(), at)
				want(t, what+": State", c.State(), api.CurClosed)
				want(t, what+": Waits", c.Waits(), false)
				for _, size := range append(wrongSizes(), [2]int{1, 1}, [2]int{9, 9999}) {
					wantNoPiece(t, what, c, size[0], size[1], api.ErrClosed)
				}
			}
		}
	}
	want(t, "the topic", p.State(), state)
	want(t, "operations", d.Ops(), ops)
	p.Drop()
	want(t, "of a dropped topic: Close", within.Close(), api.ErrClosed)
	want(t, "of a dropped topic: Waits", some[0][1].Waits(), false)
}

// One that is closed is no matter to another one.
func TestCursorsStandForThemselves(t *testing.T) {
	_, p := holding(t, four()...)
	one, two := tailed(t, p, 0), tailed(t, p, 0)
	wantPiece(t, "one", one, 3, 999, 3, api.CurOpen, four()[:3]...)
	want(t, "two: the position", two.Position(), 0)
	want(t, "Close", one.Close(), api.OK)
	wantPiece(t, "two", two, 9, 999, 4, api.CurOpen, four()...)
}
