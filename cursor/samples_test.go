package cursor_test

import (
	"fmt"
	"math"
	"slices"
	"strings"
	"testing"

	"chronicle/api"
	"chronicle/cursor"
	"chronicle/merge"
	"chronicle/simfs"
	"chronicle/topic"
)

// put is a value of a key at an offset, at the time 0.
func put(off int64, key, value string) api.Record {
	return api.Record{Kind: api.KValue, Offset: off, Key: key, Value: value}
}

// gone is a key's tombstone at an offset, at the time 0.
func gone(off int64, key string) api.Record {
	return api.Record{Kind: api.KTombstone, Offset: off, Key: key}
}

// at is a record of another time.
func at(time int64, r api.Record) api.Record {
	r.Time = time
	return r
}

// pair is what a reader makes of a value.
func pair(r api.Record) api.Pair {
	return api.Pair{Key: r.Key, Value: r.Value, Off: r.Offset, Time: r.Time}
}

// made is a new topic with the number 3, the limit 256 and the horizon 5, on a disk of its own, at the time 0.
func made(t *testing.T) (*simfs.Disk, *topic.Topic) {
	t.Helper()
	d, _ := simfs.New(1 << 24)
	p, e := topic.Create(d, 3, 256, 5, 0)
	if p == nil || e != api.OK {
		t.Fatalf("Create: %v, %d", p, e)
	}
	return d, p
}

// holding is such a topic with records that are committed.
func holding(t *testing.T, recs ...api.Record) (*simfs.Disk, *topic.Topic) {
	t.Helper()
	d, p := made(t)
	add(t, p, recs...)
	return d, p
}

// lay appends records that have to be taken, at their times.
func lay(t *testing.T, p *topic.Topic, recs ...api.Record) {
	t.Helper()
	for _, r := range recs {
		w := api.Write{Key: r.Key, Value: r.Value, Tombstone: r.Kind == api.KTombstone, Pid: r.Pid, Seq: r.Seq}
		if off, again, e := p.Append(r.Time, w); off != r.Offset || again || e != api.OK {
			t.Fatalf("Append of %s: %d, %t, %d", brief(r), off, again, e)
		}
	}
}

// add appends records, and commits them.
func add(t *testing.T, p *topic.Topic, recs ...api.Record) {
	t.Helper()
	lay(t, p, recs...)
	want(t, "Commit", p.Commit(), api.OK)
}

// compact seals all that there is, and merges it at a time.
func compact(t *testing.T, p *topic.Topic, now, mark int64) {
	t.Helper()
	want(t, "Roll", p.Roll(), api.OK)
	m, e := merge.Start(p)
	want(t, "Start", e, api.OK)
	for !m.Over() {
		if s, e := m.Step(now); e != api.OK {
			t.Fatalf("Step: %v, %d", s, e)
		}
	}
	want(t, "the mark", p.State().Mark, mark)
}

// unpower takes a disk's power away.
func unpower(t *testing.T, d *simfs.Disk) {
	t.Helper()
	d.Fuse(0)
	want(t, "SyncDir", d.SyncDir(), api.ErrDead)
}

// four is the log of the document's examples.
func four() []api.Record {
	return []api.Record{put(0, "a", "1"), put(1, "b", "2"), at(10, gone(2, "a")), at(10, put(3, "c", "3"))}
}

// fifth is what comes behind it.
func fifth() api.Record { return at(11, put(4, "d", "4")) }

// begin is Replay or Tail.
type begin func(*topic.Topic, int64) (*cursor.Cursor, api.Errno)

func beginnings() map[string]begin {
	return map[string]begin{"Replay": cursor.Replay, "Tail": cursor.Tail}
}

// begun is a cursor that has to begin, at its from.
func begun(t *testing.T, f begin, p *topic.Topic, from int64) *cursor.Cursor {
	t.Helper()
	c, e := f(p, from)
	if c == nil || e != api.OK || c.Position() != from {
		t.Fatalf("from %d: %v, %d", from, c, e)
	}
	return c
}

func replayed(t *testing.T, p *topic.Topic, from int64) *cursor.Cursor {
	t.Helper()
	return begun(t, cursor.Replay, p, from)
}

func tailed(t *testing.T, p *topic.Topic, from int64) *cursor.Cursor {
	t.Helper()
	return begun(t, cursor.Tail, p, from)
}

// wantRefused fails unless no cursor has begun, for this reason.
func wantRefused(t *testing.T, what string, f begin, p *topic.Topic, from int64, errno api.Errno) {
	t.Helper()
	if c, e := f(p, from); c != nil || e != errno {
		t.Errorf("%s: from %d: %v, %d, want %d", what, from, c, e, errno)
	}
}

// wantPiece fails unless the next piece is this one.
func wantPiece(t *testing.T, what string, c *cursor.Cursor, most, bytes int, next int64, state int, recs ...api.Record) {
	t.Helper()
	got, e := c.Next(most, bytes)
	if e != api.OK || got.Next != next || got.State != state || !slices.Equal(got.Recs, recs) {
		t.Errorf("%s: Next(%d, %d) = %s, %d, %d, %d, want %s, %d, %d", what, most, bytes,
			briefs(got.Recs), got.Next, got.State, e, briefs(recs), next, state)
	}
	want(t, what+": the position behind", c.Position(), next)
	want(t, what+": the state behind", c.State(), state)
}

// wantNoPiece fails unless Next is refused so, and the cursor stands as it stood.
func wantNoPiece(t *testing.T, what string, c *cursor.Cursor, most, bytes int, errno api.Errno) {
	t.Helper()
	stood := fmt.Sprint(c.Position(), c.State(), c.Waits())
	got, e := c.Next(most, bytes)
	want(t, what+": Next", fmt.Sprint(len(got.Recs), got.Next, got.State, e), fmt.Sprint(0, 0, 0, errno))
	want(t, what+": where it stands", fmt.Sprint(c.Position(), c.State(), c.Waits()), stood)
}

// wrongSizes is sizes that no piece has.
func wrongSizes() [][2]int {
	return [][2]int{{0, 1}, {1, 0}, {-1, 9}, {9, -1}, {0, 0}, {math.MinInt, 9999}, {9999, math.MinInt}, {math.MinInt, math.MinInt}}
}

// taken is a snapshot that has to be taken, of a moment.
func taken(t *testing.T, p *topic.Topic, prefix string, moment int64) *cursor.Snap {
	t.Helper()
	s, e := cursor.Prefix(p, prefix)
	if s == nil || e != api.OK || s.Moment() != moment {
		t.Fatalf("Prefix(%q): %v, %d, want the moment %d", prefix, s, e, moment)
	}
	return s
}

// wantPairs fails unless the next pairs of a snapshot are these.
func wantPairs(t *testing.T, what string, s *cursor.Snap, most, bytes, state int, pairs ...api.Pair) {
	t.Helper()
	if got, st, e := s.Next(most, bytes); e != api.OK || st != state || !slices.Equal(got, pairs) {
		t.Errorf("%s: Next(%d, %d) = %.600v, %d, %d, want %.600v, %d", what, most, bytes, got, st, e, pairs, state)
	}
}

// wantNoPairs fails unless Next is refused so.
func wantNoPairs(t *testing.T, what string, s *cursor.Snap, most, bytes int, errno api.Errno) {
	t.Helper()
	moment := s.Moment()
	got, state, e := s.Next(most, bytes)
	want(t, what+": Next", fmt.Sprint(len(got), state, e), fmt.Sprint(0, 0, errno))
	want(t, what+": Moment", s.Moment(), moment)
}

// brief tells a record, its texts cut short.
func brief(r api.Record) string {
	return fmt.Sprintf("{kind %d at %d, time %d, %.10q: %.20q}", r.Kind, r.Offset, r.Time, r.Key, r.Value)
}

func briefs(recs []api.Record) string {
	var list []string
	for _, r := range recs {
		list = append(list, brief(r))
	}
	return strings.Join(list, " ")
}

// want fails if an answer is another one than is wanted.
func want[T comparable](t *testing.T, what string, got, wanted T) {
	t.Helper()
	if got != wanted {
		t.Errorf("%s: %v, want %v", what, got, wanted)
	}
}

func wantList[T comparable](t *testing.T, what string, got, wanted []T) {
	t.Helper()
	if !slices.Equal(got, wanted) {
		t.Errorf("%s: %.600v, want %.600v", what, got, wanted)
	}
}
