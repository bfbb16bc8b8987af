package group_test

import (
	"fmt"
	"strings"
	"testing"

	"chronicle/api"
	"chronicle/group"
	"chronicle/topic"
)

func wantRefused(t *testing.T, what string, p *topic.Topic, errno api.Errno) {
	t.Helper()
	if g, e := group.New(p); g != nil || e != errno {
		t.Errorf("%s: New = %v, %d, want none, %d", what, g, e, errno)
	}
}

// 15.2
func TestNewRefuses(t *testing.T) {
	wantRefused(t, "a nil topic", nil, api.ErrNil)
	wantRefused(t, "a topic that nobody made", &topic.Topic{}, api.ErrNil)
	_, p := laid(t, generation("a", 1))
	want(t, "Drop", p.Drop(), api.OK)
	wantRefused(t, "a dropped topic", p, api.ErrGone)
	d, p := laid(t, generation("a", 1))
	unpower(t, d)
	wantRefused(t, "a disk without power", p, api.ErrDead)
	// What is damaged is found ahead of a loss of power, or not at all: the disk is asked first.
	d, p = laid(t, put("x", ""))
	unpower(t, d)
	wantRefused(t, "a disk without power", p, api.ErrDead)
}

// 15.2: where there is nothing to read, the disk needs no power.
func TestNewWithoutRecords(t *testing.T) {
	d, p, g := none(t)
	want(t, "told", told(g), told(begun(t, p)))
	want(t, "Names", len(g.Names()), 0)
	wantGen(t, "without records", g, "a", 0)
	wantAt(t, "without records", g, "a", 0, -1)
	unpower(t, d)
	g = begun(t, p)
	want(t, "Names", len(g.Names()), 0)
	wantJoin(t, "without power", g, "a", 0, api.ErrDead)
}

// 15.2: records of each kind, with the least and the greatest numbers.
func TestNewReads(t *testing.T) {
	_, _, g := over(t,
		generation("a", 1), generation("b", lastGen), generation(long, 5), generation("-", 128),
		position("a", 0, 0), position("a", lastId, lastPos), position("a", 10, 127), position("a", 9, 128),
		position("b", 0, 5), position(long, lastId, lastPos-1), position("b", 3, 1),
		gone("p.b.3"), gone("p.a.77"), position("b", 0, 4), generation("a", 2))
	wantList(t, "Names", g.Names(), []string{"-", "a", long, "b"})
	wantGen(t, "the last one", g, "a", 2)
	wantGen(t, "the greatest", g, "b", lastGen)
	wantGen(t, "a long name", g, long, 5)
	wantGen(t, "two bytes", g, "-", 128)
	wantList(t, "Positions", g.Positions("a"), []api.GroupPos{{Group: "a", Topic: 0, Pos: 0}, {Group: "a", Topic: 9, Pos: 128}, {Group: "a", Topic: 10, Pos: 127}, {Group: "a", Topic: lastId, Pos: lastPos}})
	wantList(t, "Positions", g.Positions("b"), []api.GroupPos{{Group: "b", Topic: 0, Pos: 4}})
	wantList(t, "Positions", g.Positions(long), []api.GroupPos{{Group: long, Topic: lastId, Pos: lastPos - 1}})
	want(t, "Positions", len(g.Positions("-")), 0)
	want(t, "Pending", g.Pending(), 0)
}

// 15.2: what the records tell holds for those that come: generations go on, and fence.
func TestNewGoesOn(t *testing.T) {
	_, _, g := over(t, generation("a", 6), position("a", 3, 9), position("b", 3, 1))
	wantSet(t, "the generation before", g, "a", 5, 3, 10, api.ErrFenced)
	wantSet(t, "the generation to come", g, "a", 7, 3, 10, api.ErrFenced)
	wantSet(t, "a position alone makes no group", g, "b", 0, 3, 10, api.ErrNoGroup)
	wantSet(t, "the generation", g, "a", 6, 3, 10, api.OK)
	wantJoin(t, "the next one", g, "a", 7, api.OK)
	wantJoin(t, "the first one", g, "b", 1, api.OK)
	wantForget(t, "both positions", g, 3, 2, api.OK)
}

// 15.2: a group's position may be told ahead of its generation, or without one. Then it has no name in Names.
func TestPositionsWithoutGenerations(t *testing.T) {
	_, _, g := over(t, position("b", 3, 1), position("a", 3, 2), generation("b", 1))
	wantList(t, "Names", g.Names(), []string{"b"})
	wantAt(t, "without a generation", g, "a", 3, 2)
	wantAt(t, "with one", g, "b", 3, 1)
	wantGen(t, "without a generation", g, "a", 0)
	wantList(t, "Positions", g.Positions("a"), []api.GroupPos{{Group: "a", Topic: 3, Pos: 2}})
}

// 15.2: of which producer a record is, is none of the table.
func TestRecordsOfProducers(t *testing.T) {
	w := generation("a", 1)
	w.Pid, w.Seq = 9, 1
	_, _, g := over(t, w)
	wantGen(t, "of a producer", g, "a", 1)
}

// strange is records that are none of the table.
func strange() []api.Write {
	list := []api.Write{generation("a", 0), generation("a", lastGen+1), generation("a", 1<<50), gone("g.a"), gone("g.A"), position("a", 1, lastPos+1), position("a", 1, 1<<62)}
	for _, key := range []string{
		"x", "g", "p", ".", "..", "...", "g.", "p.", "g..", "p..", "p..1", "p.a", "p.a.", "G.a", "P.a.1", "h.a", "q.a.1", "gg.a", "pp.a.1", "g,a", "ga", "pa.1", " g.a", ".g.a",
		"g.A", "g.a.", "g.a.1", "g.a b", "g." + long + "y", "g.\x00", "g.a\n", "g.ä", "a.g",
		"p.A.1", "p.a.1.", "p.a.1.1", "p.a..1", "p." + long + "y.1", "p.1", "p.a,1",
		"p.a.00", "p.a.01", "p.a.007", "p.a.+1", "p.a.-1", "p.a.-0", "p.a. 1", "p.a.1 ", "p.a.1x", "p.a.x", "p.a.1e3", "p.a.0x1", "p.a.1_0",
		"p.a.1073741824", "p.a.4294967296", "p.a.9223372036854775807", "p.a.9223372036854775808", "p.a.18446744073709551617", "p.a." + strings.Repeat("9", 40), "p.a.٣",
	} {
		list = append(list, put(key, "\x01"))
		if !strings.HasPrefix(key, "g") {
			list = append(list, gone(key))
		}
	}
	for _, value := range []string{
		"", "\x80", "\x81", "\x80\x00", "\x81\x00", "\x81\x80\x00", "\x01\x00", "\x01\x01", "\x7f\x00", "\x80\x01\x00", "\xff\xff\xff", "1", // the last one is 49, which is fine
		"\x80\x80\x80\x80\x80\x80\x80\x80\x80\x01", "\xff\xff\xff\xff\xff\xff\xff\xff\xff\x01", "\xff\xff\xff\xff\xff\xff\xff\xff\xff\x02", "\x80\x80\x80\x80\x80\x80\x80\x80\x80\x80\x01", strings.Repeat("\x80", 20) + "\x01", strings.Repeat("\x01", 1024),
	} {
		if value != "1" {
			list = append(list, put("g.a", value), put("p.a.1", value))
		}
	}
	return list
}

// 15.2: one strange record, ahead of right ones, between them, behind them, superseded or not.
func TestNewOverStrangeRecords(t *testing.T) {
	right := []api.Write{generation("a", 1), position("a", 1, 1), gone("p.a.1"), generation("b", 1)}
	for _, w := range strange() {
		for at := range len(right) + 1 {
			var all []api.Write
			all = append(all, right[:at]...)
			all = append(all, w)
			all = append(all, right[at:]...)
			_, p := laid(t, all...)
			wantRefused(t, fmt.Sprintf("%q = %.20q, %t at %d", w.Key, w.Value, w.Tombstone, at), p, api.ErrDamaged)
		}
	}
	_, _, g := over(t, append(right, put("g.a", "1"), put("p.a.1", "1"))...)
	wantGen(t, "right ones", g, "a", 49)
	wantAt(t, "right ones", g, "a", 1, 49)
}

// 15.2: what a merge has taken out is not looked at, nor what is pending.
func TestNewLooksAtWhatIsLeft(t *testing.T) {
	_, p := laid(t, put("g.a", ""), position("a", 1, 7), generation("a", 2))
	wantRefused(t, "ahead of a merge", p, api.ErrDamaged)
	want(t, "Roll", p.Roll(), api.OK)
	mergeAll(t, p, 0)
	g := begun(t, p)
	wantGen(t, "merged", g, "a", 2)
	wantAt(t, "merged", g, "a", 1, 7)
	lay(t, p, put("x", ""))
	begun(t, p)
	want(t, "Commit", p.Commit(), api.OK)
	wantRefused(t, "committed", p, api.ErrDamaged)
}

// 15.2: New changes nothing.
func TestNewChangesNothing(t *testing.T) {
	d, p, g := over(t, generation("a", 1), position("a", 1, 1))
	lay(t, p, generation("b", 1))
	undone(t, "New", d, p, g, func() {
		other := begun(t, p)
		wantGen(t, "pending", other, "b", 0)
		want(t, "Pending", other.Pending(), 1)
	})
}
