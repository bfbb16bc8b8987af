package session_test

import (
	"fmt"
	"math"
	"slices"
	"strings"
	"testing"

	"chronicle/api"
	"chronicle/cursor"
	"chronicle/probe"
	"chronicle/record"
	"chronicle/session"
	"chronicle/topic"
)

// wantDelivered fails unless a delivery sends this one response.
func wantDelivered(t *testing.T, what string, s *session.Session, r api.Response) {
	t.Helper()
	want(t, what+": Ready", s.Ready(), true)
	want(t, what+": Deliver", s.Deliver(), len(r.Records))
	wantOut(t, what, s, r)
}

// wantNothing fails unless a delivery does nothing.
func wantNothing(t *testing.T, what string, s *session.Session) {
	t.Helper()
	ahead := s.State()
	for range 2 {
		want(t, what+": Ready", s.Ready(), false)
		want(t, what+": Deliver", s.Deliver(), 0)
		want(t, what+": State", s.State(), ahead)
	}
}

// 18.9

// Example 4.
func TestDeliverAReplay(t *testing.T) {
	p := holding(t, two()...)
	s := session.New(1)
	wantNothing(t, "no reader", s)
	c := replay(t, p, 0)
	subscribe(t, s, 9, c)
	want(t, "another one", s.Subscribe(9, 3, replay(t, p, 0)), api.ErrSubs)
	wantDelivered(t, "both", s, delivery(9, 2, false, two()...))
	want(t, "it is closed", c.State(), api.CurClosed)
	wantNothing(t, "behind its end", s)
	want(t, "Unsubscribe", s.Unsubscribe(9), api.ErrNoSub)
	want(t, "State", s.State(), api.SessState{})
	subscribe(t, s, lastId, replay(t, p, 2))
	wantDelivered(t, "one that is at its end", s, delivery(lastId, 2, false))
	wantNothing(t, "behind its end", s)
}

func TestDeliverAReplayInPieces(t *testing.T) {
	recs := bulky(8)
	p := holding(t, recs...)
	s := session.New(1)
	subscribe(t, s, 9, replay(t, p, 1))
	add(t, p, value(8, 0, "later", ""))
	wantDelivered(t, "three", s, delivery(9, 4, true, recs[1:4]...))
	wantDelivered(t, "three more", s, delivery(9, 7, true, recs[4:7]...))
	wantReaders(t, "it goes on", s, 1, 0)
	wantDelivered(t, "the last one", s, delivery(9, 8, false, recs[7]))
	wantReaders(t, "it has ended", s, 0, 0)
}

func TestDeliverATail(t *testing.T) {
	p := holding(t, two()...)
	s := session.New(1)
	c := tail(t, p, 1)
	subscribe(t, s, 9, c)
	wantDelivered(t, "what is there", s, delivery(9, 2, true, two()[1]))
	wantNothing(t, "at its end", s)
	p.Append(5, api.Write{Key: "c", Value: "3", Pid: 7, Seq: 1})
	wantNothing(t, "it is pending", s)
	want(t, "Commit", p.Commit(), api.OK)
	third := value(2, 5, "c", "3")
	third.Pid, third.Seq = 7, 1
	wantDelivered(t, "it is committed", s, delivery(9, 3, true, third))
	wantNothing(t, "at its end", s)
	add(t, p, tomb(3, 6, "a"), value(4, 7, "d", ""))
	wantDelivered(t, "a tombstone too", s, delivery(9, 5, true, tomb(3, 6, "a"), value(4, 7, "d", "")))
	wantReaders(t, "it goes on", s, 1, 0)
	want(t, "it is open", c.State(), api.CurOpen)
}

// What is left of a tail's records may be none.
func TestDeliverWithoutRecords(t *testing.T) {
	p := holding(t, value(0, 0, "a", "1"), value(1, 0, "a", "2"), tomb(2, 1, "a"))
	s := session.New(1)
	subscribe(t, s, 1, tail(t, p, 0))
	subscribe(t, s, 2, replay(t, p, 0))
	compact(t, p, 20)
	left, _ := p.Records()
	want(t, "records that are left", len(left), 0)
	wantDelivered(t, "a tail", s, delivery(1, 3, true))
	wantDelivered(t, "a replay", s, delivery(2, 3, false))
	wantNothing(t, "behind that", s)
	wantReaders(t, "the tail", s, 1, 0)
}

func TestDeliverOneThatIsPassed(t *testing.T) {
	p := holding(t, append(bulky(4), tomb(4, 1, "000"), tomb(5, 1, "003"), value(6, 1, "z", ""))...)
	s := session.New(1)
	c, r := tail(t, p, 0), replay(t, p, 1)
	subscribe(t, s, 1, c)
	subscribe(t, s, 2, r)
	subscribe(t, s, 3, tail(t, p, 7))
	wantDelivered(t, "three of the tail", s, delivery(1, 3, true, bulky(3)...))
	compact(t, p, 20)
	want(t, "the mark", p.State().Mark, 6)
	wantDelivered(t, "the replay", s, api.Response{Id: 2, Op: 64, Code: 6, Offset: 1})
	wantDelivered(t, "the tail", s, api.Response{Id: 1, Op: 64, Code: 6, Offset: 3})
	want(t, "the tail is closed", c.State(), api.CurClosed)
	want(t, "the replay is closed", r.State(), api.CurClosed)
	wantReaders(t, "the one behind the mark goes on", s, 1, 0)
	wantNothing(t, "behind that", s)
}

// A cursor's error is told by its code, and by nothing else.
func TestDeliverErrors(t *testing.T) {
	for what, c := range map[string]struct {
		spoil func(p *topic.Topic, c *cursor.Cursor)
		code  int
	}{
		"a dropped topic": {func(p *topic.Topic, c *cursor.Cursor) { p.Drop() }, api.CodeNoTopic},
		"no power":        {func(p *topic.Topic, c *cursor.Cursor) { unpower(t, p.Disk()) }, api.CodeBadRequest},
		"closed":          {func(p *topic.Topic, c *cursor.Cursor) { c.Close() }, api.CodeBadRequest},
	} {
		for from := range int64(2) {
			p := holding(t, two()...)
			first, second := tail(t, p, from), replay(t, p, from)
			s := session.New(1)
			subscribe(t, s, 8, first)
			subscribe(t, s, 9, second)
			c.spoil(p, first)
			c.spoil(p, second)
			if from == 0 && what == "a dropped topic" {
				// The tail stands at 0, and waits there.
				wantDelivered(t, what, s, ended(9, c.code))
				wantReaders(t, what, s, 1, 0)
				wantNothing(t, what, s)
				continue
			}
			wantDelivered(t, what, s, ended(8, c.code))
			wantDelivered(t, what, s, ended(9, c.code))
			want(t, what+": it is closed", first.State(), api.CurClosed)
			wantReaders(t, what, s, 0, 0)
			wantNothing(t, what, s)
		}
	}
	s := session.New(1)
	subscribe(t, s, 8, &cursor.Cursor{})
	wantDelivered(t, "one that nobody began", s, ended(8, api.CodeBadRequest))
	wantReaders(t, "one that nobody began", s, 0, 0)
}

// pairs is so many keys, of which each has so many bytes with its value.
func pairs(n, size int) []api.Record {
	var recs []api.Record
	for i := range n {
		recs = append(recs, value(int64(i), int64(i), fmt.Sprintf("%03d", i), probe.Text(uint64(i), size-3)))
	}
	return recs
}

// plain is records as a snapshot tells them.
func plain(recs ...api.Record) []api.Record {
	recs = slices.Clone(recs)
	for i := range recs {
		recs[i].Pid, recs[i].Seq = 0, 0
	}
	return recs
}

func TestDeliverASnapshot(t *testing.T) {
	recs := []api.Record{value(0, 1, "b", "2"), value(1, 2, "a", "1"), value(2, 3, "c", ""), tomb(3, 4, "c")}
	recs[1].Pid, recs[1].Seq = 5, 1
	p := holding(t, recs...)
	s := session.New(1)
	q := snapshot(t, p)
	hold(t, s, 9, q)
	add(t, p, value(4, 5, "a", "anew"))
	wantDelivered(t, "both, by rising keys", s, delivery(9, 4, false, plain(recs[1], recs[0])...))
	want(t, "it is closed", isClosed(q), true)
	wantReaders(t, "it has ended", s, 0, 0)
	wantNothing(t, "behind its end", s)
	_, empty := made(t)
	hold(t, s, 9, snapshot(t, empty))
	wantDelivered(t, "no pairs", s, delivery(9, 0, false))
	hold(t, s, 10, snapshot(t, holding(t, value(0, 0, "a", ""), tomb(1, 0, "a"))))
	wantDelivered(t, "no pairs that live", s, delivery(10, 2, false))
	wantReaders(t, "they have ended", s, 0, 0)
}

func TestDeliverSnapshotsByCount(t *testing.T) {
	for _, n := range []int{1, 39, 40, 41, 80, 81, 123} {
		recs := pairs(n, 5)
		s := session.New(1)
		hold(t, s, 9, snapshot(t, holding(t, recs...)))
		for from := 0; from < n; from += 40 {
			end := min(from+40, n)
			wantDelivered(t, fmt.Sprintf("%d pairs, from %d", n, from), s, delivery(9, int64(n), end < n, recs[from:end]...))
		}
		wantReaders(t, "it has ended", s, 0, 0)
		wantNothing(t, "behind its end", s)
	}
}

func TestDeliverSnapshotsBySize(t *testing.T) {
	for _, c := range []struct{ n, size, piece int }{
		{3, 1000, 3}, {4, 1000, 3}, {6, 1000, 3}, {7, 1001, 2}, {4, 1027, 2}, {30, 100, 30}, {31, 100, 30}, {30, 101, 29}, {40, 75, 40}, {41, 75, 40}, {40, 76, 39},
	} {
		recs := pairs(c.n, c.size)
		s := session.New(1)
		hold(t, s, 9, snapshot(t, holding(t, recs...)))
		for from := 0; from < c.n; from += c.piece {
			end := min(from+c.piece, c.n)
			wantDelivered(t, fmt.Sprintf("%d pairs of %d bytes, from %d", c.n, c.size, from), s, delivery(9, int64(c.n), end < c.n, recs[from:end]...))
		}
		wantReaders(t, "it has ended", s, 0, 0)
	}
}

// Three pairs of just 3000 bytes make one piece, and of one byte more two.
func TestDeliverSnapshotsAtTheirBound(t *testing.T) {
	for size, n := range map[int]int{999: 3, 1000: 3, 1001: 2, 1002: 2} {
		recs := append(pairs(2, 1000), value(2, 2, "last", probe.Text(9, size-4)))
		s := session.New(1)
		hold(t, s, 9, snapshot(t, holding(t, recs...)))
		wantDelivered(t, fmt.Sprint("a last one of ", size), s, delivery(9, 3, n < 3, recs[:n]...))
	}
}

// Records of just 4051 bytes make one piece, and of one byte more two.
func TestDeliverCursorsAtTheirBound(t *testing.T) {
	for sum, n := range map[int]int{4050: 5, 4051: 5, 4052: 4, 4053: 4} {
		recs := append(bulky(3), value(3, 0, "d", probe.Text(9, 900)))
		for _, r := range recs {
			sum -= record.Size(r)
		}
		last := value(4, 0, "e", "")
		last.Value = probe.Text(9, sum-record.Size(last))
		want(t, "bytes of the last one", record.Size(last), sum)
		recs = append(recs, last)
		p := holding(t, recs...)
		s := session.New(1)
		subscribe(t, s, 8, tail(t, p, 0))
		subscribe(t, s, 9, replay(t, p, 0))
		wantDelivered(t, "a tail", s, delivery(8, int64(n), true, recs[:n]...))
		wantDelivered(t, "a replay", s, delivery(9, int64(n), n < 5, recs[:n]...))
	}
}

// What becomes of its topic is nothing to a snapshot.
func TestDeliverSnapshotsOfADroppedTopic(t *testing.T) {
	recs := pairs(41, 5)
	p := holding(t, recs...)
	s := session.New(1)
	hold(t, s, 9, snapshot(t, p))
	wantDelivered(t, "the first", s, delivery(9, 41, true, recs[:40]...))
	p.Drop()
	wantDelivered(t, "the last", s, delivery(9, 41, false, recs[40]))
}

// A snapshot that was closed ahead, or that nobody began, ends at once: it would be told of for ever else.
func TestDeliverClosedSnapshots(t *testing.T) {
	q := snapshot(t, holding(t, two()...))
	q.Close()
	for what, p := range map[string]*cursor.Snap{"closed": q, "nobody began it": {}} {
		s := session.New(1)
		hold(t, s, 9, p)
		wantDelivered(t, what, s, ended(9, api.CodeBadRequest))
		wantReaders(t, what, s, 0, 0)
		wantNothing(t, what, s)
	}
}

// greatest is the longest records that there are, with the greatest numbers, of a topic that is near its end.
func greatest(t *testing.T, n, size int) (*topic.Topic, []api.Record) {
	t.Helper()
	const next, clock = api.MaxOffset - 1000, api.MaxTime - 1
	p := beyond(t, next, clock)
	var recs []api.Record
	for i := range n {
		r := value(next+int64(i), clock, strings.Repeat("k", 60)+fmt.Sprintf("%04d", i), probe.Text(uint64(i), size-64))
		r.Pid, r.Seq = api.MaxPid-1, int64(i+1)
		recs = append(recs, r)
	}
	add(t, p, recs...)
	return p, recs
}

// What a Deliver sends has room in one frame: of the greatest records that there are, too.
func TestDeliverTheGreatest(t *testing.T) {
	p, recs := greatest(t, 7, api.MaxKey+api.MaxValue)
	first := recs[0].Offset
	s := session.New(1)
	subscribe(t, s, lastId, replay(t, p, first))
	wantDelivered(t, "three", s, delivery(lastId, first+3, true, recs[:3]...))
	wantDelivered(t, "three more", s, delivery(lastId, first+6, true, recs[3:6]...))
	wantDelivered(t, "the last one", s, delivery(lastId, first+7, false, recs[6]))
	hold(t, s, lastId, snapshot(t, p))
	for from := 0; from < 7; from += 2 {
		end := min(from+2, 7)
		wantDelivered(t, "two", s, delivery(lastId, first+7, end < 7, plain(recs[from:end]...)...))
	}
	p, recs = greatest(t, 41, 75)
	hold(t, s, lastId, snapshot(t, p))
	wantDelivered(t, "forty", s, delivery(lastId, first+41, true, plain(recs[:40]...)...))
	wantDelivered(t, "the last one", s, delivery(lastId, first+41, false, plain(recs[40])...))
	subscribe(t, s, lastId, tail(t, p, first))
	sent := 0
	for s.Ready() {
		sent += s.Deliver()
	}
	want(t, "records that a tail was sent", sent, 41)
}

// A delivery of many records: as many as fit into its bytes, at most.
func TestDeliverSmallRecords(t *testing.T) {
	var recs []api.Record
	for i := range 1200 {
		recs = append(recs, value(int64(i), 0, "k", ""))
	}
	p := holding(t, recs...)
	twin := tail(t, p, 0)
	s := session.New(1)
	subscribe(t, s, 1, tail(t, p, 0))
	for !twin.Waits() {
		piece, _ := twin.Next(1000, 4051)
		if len(piece.Recs) < 250 && !twin.Waits() {
			t.Errorf("a piece has %d records alone", len(piece.Recs))
		}
		wantDelivered(t, "as many as fit", s, delivery(1, piece.Next, true, piece.Recs...))
	}
	wantNothing(t, "all is told", s)
}

// 18.10
func TestGone(t *testing.T) {
	p := holding(t, two()...)
	s := session.New(1)
	want(t, "no reader", s.Gone(3), 0)
	c := tail(t, p, 0)
	want(t, "Subscribe", s.Subscribe(1, 3, c), api.OK)
	for _, topic := range []int{4, 2, 0, -3, math.MaxInt, math.MinInt} {
		want(t, "another topic", s.Gone(topic), 0)
	}
	want(t, "nothing has changed", s.State(), api.SessState{Subs: 1})
	want(t, "its topic", s.Gone(3), 1)
	want(t, "it is closed", c.State(), api.CurClosed)
	wantOut(t, "it is told", s, ended(1, 2))
	want(t, "State", s.State(), api.SessState{})
	want(t, "once more", s.Gone(3), 0)
	want(t, "Unsubscribe", s.Unsubscribe(1), api.ErrNoSub)
}

func TestGoneAmongOthers(t *testing.T) {
	p := holding(t, two()...)
	for mask := range 1 << 6 { // which of six readers are of the topic that is gone
		s := session.New(1)
		var cursors []*cursor.Cursor
		var snaps []*cursor.Snap
		var told []api.Response
		var topics []int
		for i := range 6 {
			id := uint32(60 - i)
			topics = append(topics, 3+mask>>i%2)
			if i%3 == 1 {
				q := snapshot(t, p)
				want(t, "Hold", s.Hold(id, topics[i], q), api.OK)
				snaps = append(snaps, q)
				cursors = append(cursors, nil)
			} else {
				c := tail(t, p, 0)
				want(t, "Subscribe", s.Subscribe(id, topics[i], c), api.OK)
				cursors = append(cursors, c)
				snaps = append(snaps, nil)
			}
			if topics[i] == 4 {
				told = append(told, ended(id, 2))
			}
		}
		what := fmt.Sprintf("readers %06b", mask)
		want(t, what, s.Gone(4), len(told))
		state := s.State()
		want(t, what+": those that are left", state.Subs+state.Snaps, 6-len(told))
		wantOut(t, what, s, told...)
		for i := range 6 {
			if cursors[i] != nil {
				want(t, what+": closed", cursors[i].State() == api.CurClosed, topics[i] == 4)
			} else {
				want(t, what+": closed", isClosed(snaps[i]), topics[i] == 4)
			}
		}
		for i := range 6 {
			if topics[i] == 3 {
				wantDelivered(t, what+": the others, in their order", s, delivery(uint32(60-i), 2, cursors[i] != nil, two()...))
			}
		}
		wantNothing(t, what, s)
	}
}

// However many bytes wait.
func TestGoneBehindMuch(t *testing.T) {
	p := holding(t, two()...)
	s := session.New(1)
	subscribe(t, s, 1, tail(t, p, 0))
	hold(t, s, 2, snapshot(t, p))
	fill(t, s, 2*maxOutbox)
	want(t, "Gone", s.Gone(3), 2)
	s.Out(2 * maxOutbox)
	wantOut(t, "both", s, ended(1, 2), ended(2, 2))
}
