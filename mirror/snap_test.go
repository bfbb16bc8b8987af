package mirror_test

import (
	"fmt"
	"testing"

	"chronicle/api"
	"chronicle/probe"
)

// passed is a mirror that is to take a snapshot by its second request. Its copy has a=1 b=2 c=3, committed; it is at 5 in the source 4, and that is noted.
func passed(t *testing.T) *desk {
	t.Helper()
	k := fresh(t)
	k.tails("ahead", 1, 0)
	k.hears("ahead", api.OK, subscribed(1, 0, 4), delivered(1, 5, value(0, "a", "1"), value(1, "b", "2"), value(4, "c", "3")))
	k.commits("ahead")
	k.hears("ahead", api.OK, refused(1, api.OpDeliver, api.CodeHorizonPassed))
	k.wantState("ahead", api.MirSnap, 5, 3, 0)
	k.snaps("ahead", 2)
	return k
}

// 22.4, the third row: the answer to the request of a snapshot.
func TestSnapshotIsAnswered(t *testing.T) {
	for _, c := range []struct {
		moment, number int64
		ok             bool
	}{
		{0, 4, true}, {4, 4, true}, {5, 4, true}, {maxOffset, 4, true}, {9, 1, true}, {9, lastId, true},
		{-1, 4, false}, {maxOffset + 1, 4, false}, {9, 0, false}, {9, -1, false}, {9, lastId + 1, false},
	} {
		k := passed(t)
		what := fmt.Sprint(c)
		r := snapped(2, c.moment, c.number)
		r.More, r.Names, r.Records = true, []string{"x"}, []api.Record{tomb(3, "a")}
		if !c.ok {
			k.hears(what, api.ErrSource, r)
			k.wantState(what, api.MirBroken, 5, 3, 0)
			continue
		}
		k.hears(what, api.OK, r)
		k.wantState(what, api.MirSnap, 5, 3, 0)
		k.asksNothing(what)
		k.hears(what, api.OK, delivered(2, c.moment))
		k.hears(what, api.OK, final(2, c.moment, value(0, "b", "2")))
		k.wantState(what, api.MirTail, c.moment, 3, 2)
		k.tails(what, 3, c.moment)
		k.holds(what, "b=2")
		k.wantNotes(what, c.number, c.moment)
		k.hears(what, api.OK, subscribed(3, c.moment, c.number))
		k.wantState(what, api.MirTail, c.moment, 1, 0)
	}
	k := passed(t)
	k.hears("twice", api.OK, snapped(2, 9, 4))
	k.hears("twice", api.ErrSource, snapped(2, 9, 4))
}

// 22.4, the fourth row: in one delivery and in several ones, what was not told is taken away, keys rising.
func TestSnapshotIsApplied(t *testing.T) {
	for what, c := range map[string]struct {
		parts [][]api.Record
		pairs string
		taken []string
	}{
		"nothing":                       {[][]api.Record{{}}, "", []string{"a", "b", "c"}},
		"all the same":                  {[][]api.Record{{value(9, "a", "1"), value(3, "b", "2"), value(3, "c", "3")}}, "a=1 b=2 c=3", nil},
		"others":                        {[][]api.Record{{value(0, "B", "1"), value(0, "aa", "2"), value(0, "bb", "3")}}, "B=1 aa=2 bb=3", []string{"a", "b", "c"}},
		"some, and a new one":           {[][]api.Record{{value(7, "b", "7"), value(1, "d", "8")}}, "b=7 d=8", []string{"a", "c"}},
		"in parts":                      {[][]api.Record{{value(7, "a", "7")}, {value(6, "b", "8")}, {value(5, "d", "9")}}, "a=7 b=8 d=9", []string{"c"}},
		"in parts, some of nothing":     {[][]api.Record{{}, {value(7, "a", "7")}, {}, {}, {value(6, "b", "8")}, {}}, "a=7 b=8", []string{"c"}},
		"one that is told at the end":   {[][]api.Record{{}, {value(7, "c", "")}}, "c=", []string{"a", "b"}},
		"by bytes":                      {[][]api.Record{{value(7, "A", "1"), value(7, "a", "2"), value(7, "a\x00", "3")}, {value(7, "\x80", "4"), value(7, "\xff\xff", "5")}}, "A=1 a=2 a\x00=3 \x80=4 \xff\xff=5", []string{"b", "c"}},
		"of times and of producers too": {[][]api.Record{{{Kind: 1, Offset: maxOffset - 1, Time: lastTime, Pid: 3, Seq: 1, Key: "a", Value: "x"}, {Kind: 1, Pid: 3, Seq: 1, Key: "b", Value: "y"}}}, "a=x b=y", []string{"c"}},
	} {
		k := passed(t)
		ahead, _ := k.m.Topic().Records()
		k.now = 60
		k.hears(what, api.OK, snapped(2, 9, 4))
		var recs []api.Record
		for i, part := range c.parts {
			if i < len(c.parts)-1 {
				k.hears(what, api.OK, delivered(2, 9, part...))
				k.wantState(what, api.MirSnap, 5, 3, len(recs)+len(part))
			} else {
				k.hears(what, api.OK, final(2, 9, part...))
			}
			recs = append(recs, part...)
		}
		want(t, what+": Pending", k.m.State().Pending, len(c.taken))
		want(t, what+": State", k.m.State().State, api.MirTail)
		for _, key := range c.taken {
			recs = append(recs, tomb(0, key))
		}
		k.holds(what, c.pairs)
		for i := range recs {
			recs[i].Pid, recs[i].Seq = 0, 0
		}
		k.wantCopy(what, append(ahead, recs...)...)
		all, _ := k.m.Topic().Records()
		for _, r := range all[len(ahead):] {
			want(t, what+": the time", r.Time, 60)
		}
		k.tails(what, 3, 9)
	}
}

// What waits for its commit in the copy ahead of a snapshot is taken away as well.
func TestSnapshotCommitsAheadOfTakingAway(t *testing.T) {
	k := fresh(t)
	k.tails("ahead", 1, 0)
	k.hears("ahead", api.OK, subscribed(1, 0, 4), delivered(1, 5, value(0, "a", "1"), value(1, "b", "2")), refused(1, api.OpDeliver, api.CodeHorizonPassed))
	k.snaps("ahead", 2)
	k.hears("taken", api.OK, snapped(2, 9, 4), delivered(2, 9, value(0, "b", "7")), final(2, 9, value(0, "d", "8")))
	k.wantState("taken", api.MirTail, 9, 3, 1)
	k.wantPairs("taken", "a=1 b=7 d=8")
	want(t, "durable", len(k.again().m.Pairs()), 3)
	k.holds("taken", "b=7 d=8")
}

// What the fourth row asks for; nothing of a delivery is applied if it is not so.
func TestValuesThatMayNotBe(t *testing.T) {
	for what, r := range map[string]api.Response{
		"another moment":            final(2, 8, value(7, "d", "1")),
		"a later moment":            final(2, 10, value(7, "d", "1")),
		"a tombstone":               final(2, 9, tomb(7, "d")),
		"a tombstone behind":        delivered(2, 9, value(7, "d", "1"), tomb(8, "e")),
		"equal keys":                delivered(2, 9, value(7, "d", "1"), value(8, "d", "1")),
		"falling keys":              delivered(2, 9, value(7, "e", "1"), value(8, "d", "1")),
		"a key that was told":       delivered(2, 9, value(7, "c", "1")),
		"a key that was told ahead": final(2, 9, value(7, "a", "1"), value(8, "z", "1")),
		"one below what was told":   final(2, 9, value(7, "b\xff", "1")),
		"the beginning of one":      final(2, 9, value(7, "B", "1")),
		"another Op":                {Id: 2, Op: api.OpReplay, Offset: 9},
		"its own Op":                {Id: 2, Op: api.OpSnapshot, Offset: 9, Number: 4},
		"the other Op":              {Id: 2, Op: api.OpSubscribe, Offset: 5, Number: 4},
		"another Id":                final(3, 9),
		"no Id":                     final(0, 9),
	} {
		k := passed(t)
		k.hears(what, api.OK, snapped(2, 9, 4), delivered(2, 9, value(7, "a", "7"), value(8, "c", "8")))
		k.hears(what, api.ErrSource, r)
		k.wantState(what, api.MirBroken, 5, 3, 2)
		k.holds(what, "a=7 b=2 c=8")
		k.wantNotes(what, 4, 5)
	}
	for what, r := range map[string]api.Response{
		"a number": {Id: 2, Op: api.OpDeliver, Offset: 9, Number: -4}, "names": {Id: 2, Op: api.OpDeliver, Offset: 9, Names: []string{"", "x"}},
	} {
		k := passed(t)
		k.hears(what, api.OK, snapped(2, 9, 4), r)
		k.wantState(what, api.MirTail, 9, 3, 3)
	}
}

// 22.4, the last rows: refusals of a snapshot; one that is passed is begun anew, and what the first one told does not count.
func TestSnapshotIsRefused(t *testing.T) {
	for code := api.CodeBadRequest; code <= api.CodeBeyond; code++ {
		for _, op := range []int{api.OpSnapshot, api.OpDeliver} {
			for _, parts := range [][]api.Response{nil, {snapped(2, 9, 4)}, {snapped(2, 9, 5), delivered(2, 9, value(0, "b", "7"), value(0, "x", "8"))}} {
				k := passed(t)
				what := fmt.Sprint("code ", code, " of ", op, " behind ", len(parts))
				k.hears(what, api.OK, parts...)
				pending := k.m.State().Pending
				k.hears(what, api.OK, api.Response{Id: 2, Op: op, Code: code, Offset: 9, More: true, Records: []api.Record{value(9, "x", "y")}})
				if code == api.CodeHorizonPassed {
					k.wantState(what, api.MirSnap, 5, 3, pending)
					k.hears(what, api.OK, final(2, 9))
					k.snaps(what, 3)
					k.hears(what, api.OK, snapped(3, 20, 6), delivered(3, 20, value(0, "a", "9")), final(3, 20, value(0, "c", "9")))
					k.holds(what, "a=9 c=9")
					k.wantNotes(what, 6, 20)
					continue
				}
				k.wantState(what, api.MirIdle, 5, 3, pending)
				k.asksNothing(what)
				k.hears(what, api.OK, final(2, 9), snapped(9, 9, 9))
				k.commits(what)
				k.wantNotes(what, 4, 5)
				k.m.Lost()
				k.tails(what, 1, 5)
			}
		}
	}
}

// A snapshot of very many keys, of which many are taken away: the copy rolls and is merged meanwhile.
func TestGreatSnapshot(t *testing.T) {
	k := limited(t, 4096)
	k.tails("ahead", 1, 0)
	k.hears("ahead", api.OK, subscribed(1, 0, 4))
	for i := range int64(600) {
		k.hears("ahead", api.OK, delivered(1, i+1, value(i, fmt.Sprintf("k%04d", i), probe.Text(uint64(i), 40))))
	}
	k.commits("ahead")
	k.hears("ahead", api.OK, refused(1, api.OpDeliver, api.CodeHorizonPassed))
	k.snaps("ahead", 2)
	k.hears("snapshot", api.OK, snapped(2, 700, 4))
	pairs := ""
	for i := 0; i < 600; i += 3 {
		r := value(int64(i), fmt.Sprintf("k%04d", i), fmt.Sprint("new ", i))
		k.hears("snapshot", api.OK, delivered(2, 700, r))
		pairs += " " + r.Key + "=" + r.Value
		if i%60 == 0 {
			merged(t, k.m.Topic(), 3)
			k.commits("snapshot")
		}
	}
	k.hears("snapshot", api.OK, final(2, 700))
	merged(t, k.m.Topic(), 3)
	k.holds("snapshot", pairs[1:])
	k.wantState("snapshot", api.MirTail, 700, 200, 0)
	k.wantNotes("snapshot", 4, 700)
	k = k.again()
	k.wantPairs("opened again", pairs[1:])
	k.tails("opened again", 1, 700)
}
