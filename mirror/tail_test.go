package mirror_test

import (
	"fmt"
	"testing"

	"chronicle/api"
)

// tailing is a mirror that tails at a position, with the source's number 4, and a copy without records.
func tailing(t *testing.T, position int64) *desk {
	t.Helper()
	k := fresh(t)
	k.tails("ahead", 1, 0)
	k.hears("ahead", api.OK, subscribed(1, 0, 4), delivered(1, position))
	k.wantState("ahead", api.MirTail, position, 0, 0)
	return k
}

// 22.4, the first row: the answer to a subscription.
func TestSubscriptionIsAnswered(t *testing.T) {
	for _, position := range []int64{0, 5, maxOffset} {
		for _, c := range []struct {
			offset, number int64
			ok             bool
		}{
			{position, 1, true}, {position, 4, true}, {position, lastId, true},
			{position, 0, false}, {position, -1, false}, {position, lastId + 1, false},
			{position - 1, 4, false}, {position + 1, 4, false}, {-position - 1, 4, false},
		} {
			d := loaded(t, nil)
			writes(t, d, copyId)
			noted(t, d, "at", placed(0, position))
			k := over(t, d, usual)
			what := fmt.Sprint(position, ": ", c)
			k.tails(what, 1, position)
			if !c.ok {
				k.hears(what, api.ErrSource, subscribed(1, c.offset, c.number))
				k.wantState(what, api.MirBroken, position, 0, 0)
				k.commits(what)
				k.wantNotes(what, 0, position)
				continue
			}
			k.hears(what, api.OK, subscribed(1, c.offset, c.number))
			k.wantState(what, api.MirTail, position, 0, 0)
			k.asksNothing(what)
			k.commits(what)
			k.wantNotes(what, c.number, position)
			k.hears(what+", twice", api.ErrSource, subscribed(1, c.offset, c.number))
		}
	}
}

// What the row does not name is not looked at.
func TestSubscriptionWithMore(t *testing.T) {
	for _, r := range []api.Response{
		{More: true}, {Names: []string{"x", "y"}}, {Records: []api.Record{value(5, "x", "1"), value(2, "y", "2")}}, {More: true, Names: []string{""}, Records: []api.Record{tomb(0, "a")}},
	} {
		k := fresh(t)
		k.tails("more", 1, 0)
		r.Id, r.Op, r.Number = 1, api.OpSubscribe, 4
		k.hears("more", api.OK, r)
		k.wantState("more", api.MirTail, 0, 0, 0)
	}
}

// 22.4: another number is another topic, whatever it is; the same one is the same.
func TestAnotherNumber(t *testing.T) {
	for _, number := range []int64{1, 3, 4, 5, lastId} {
		k := tailing(t, 7)
		k.m.Lost()
		k.tails("again", 1, 7)
		k.hears("again", api.OK, subscribed(1, 7, number))
		if number == 4 {
			k.wantState("the same", api.MirTail, 7, 0, 0)
			k.asksNothing("the same")
			continue
		}
		k.wantState("another", api.MirSnap, 7, 0, 0)
		k.commits("another")
		k.wantNoPlace("another: a snapshot is being taken")
		k.snaps("another", 2)
		k.hears("another", api.OK, snapped(2, 3, number), final(2, 3, value(1, "a", "1")))
		k.wantState("another", api.MirTail, 3, 1, 0)
		k.tails("another", 3, 3)
		k.hears("another", api.OK, subscribed(3, 3, number))
		k.wantState("another", api.MirTail, 3, 1, 0)
		k.holds("another", "a=1")
		k.wantNotes("another", number, 3)
	}
}

// 22.4, the second row: deliveries of records.
func TestRecordsAreApplied(t *testing.T) {
	k := tailing(t, 5)
	k.now = 77
	k.hears("some", api.OK, delivered(1, 9, value(5, "a", "1"), value(6, "b", "2"), tomb(7, "a"), value(8, "c", "")))
	k.wantState("some", api.MirTail, 9, 0, 4)
	k.wantPairs("not committed", "")
	k.hears("none", api.OK, delivered(1, 9))
	k.hears("none, and further on", api.OK, delivered(1, 20))
	k.wantState("further on", api.MirTail, 20, 0, 4)
	k.hears("gaps", api.OK, delivered(1, 40, value(25, "b", "3"), value(33, "b", "3")))
	k.holds("all", "b=3 c=")
	k.wantState("all", api.MirTail, 40, 2, 0)
	k.wantCopy("all", value(0, "a", "1"), value(0, "b", "2"), tomb(0, "a"), value(0, "c", ""), value(0, "b", "3"), value(0, "b", "3"))
	recs, _ := k.m.Topic().Records()
	for i, r := range recs {
		want(t, "its own offset", r.Offset, int64(i))
		want(t, "the time of Hear", r.Time, 77)
	}
	k.wantNotes("all", 4, 40)
	k.hears("the last of all", api.OK, delivered(1, maxOffset, value(maxOffset-1, "d", "4")))
	k.wantState("the last of all", api.MirTail, maxOffset, 2, 1)
	k.hears("nothing more", api.OK, delivered(1, maxOffset))
	k.holds("the last of all", "b=3 c= d=4")
}

// Of a record its key and its value are applied, or that it is a tombstone: not whose it is, and when.
func TestRecordsOfProducersAreApplied(t *testing.T) {
	k := tailing(t, 0)
	for i := range int64(3) {
		r := api.Record{Kind: api.KValue, Offset: i, Time: lastTime, Pid: 5, Seq: 9, Key: "a", Value: fmt.Sprint(i)}
		k.hears("of a producer", api.OK, delivered(1, i+1, r))
	}
	k.hears("of a producer", api.OK, delivered(1, 4, api.Record{Kind: api.KTombstone, Offset: 3, Time: 5, Pid: 5, Seq: 1, Key: "b"}))
	k.holds("of a producer", "a=2")
	k.wantCopy("of a producer", value(0, "a", "0"), value(0, "a", "1"), value(0, "a", "2"), tomb(0, "b"))
	want(t, "the clock", k.m.Topic().Tick(0), 0)
}

// What the row does not name is not looked at; what it does has to be so, and nothing of the delivery is applied if it is not.
func TestRecordsThatMayNotBe(t *testing.T) {
	right := delivered(1, 9, value(5, "a", "1"), value(6, "b", "2"))
	for what, change := range map[string]func(*api.Response){
		"a number":            func(r *api.Response) { r.Number = -9 },
		"names":               func(r *api.Response) { r.Names = []string{"", "zz"} },
		"the least Offset":    func(r *api.Response) { r.Offset = 7 },
		"the greatest Offset": func(r *api.Response) { r.Offset = maxOffset },
	} {
		k := tailing(t, 5)
		r := right
		change(&r)
		k.hears(what, api.OK, r)
		k.wantState(what, api.MirTail, r.Offset, 0, 2)
	}
	for what, change := range map[string]func(*api.Response){
		"not More":                  func(r *api.Response) { r.More = false },
		"an Offset below":           func(r *api.Response) { r.Offset, r.Records = 4, nil },
		"an Offset below 0":         func(r *api.Response) { r.Offset, r.Records = -1, nil },
		"an Offset too great":       func(r *api.Response) { r.Offset = maxOffset + 1 },
		"an Offset too great, bare": func(r *api.Response) { r.Offset, r.Records = maxOffset+1, nil },
		"a record at Offset":        func(r *api.Response) { r.Offset = 6 },
		"a record above Offset":     func(r *api.Response) { r.Offset = 5 },
		"one below the position":    func(r *api.Response) { r.Records[0].Offset = 4 },
		"equal ones":                func(r *api.Response) { r.Records[1].Offset = 5 },
		"falling ones":              func(r *api.Response) { r.Records[0].Offset, r.Records[1].Offset = 7, 6 },
		"another Op":                func(r *api.Response) { r.Op = api.OpReplay },
		"its own Op":                func(r *api.Response) { r.Op = api.OpSubscribe },
		"the other Op":              func(r *api.Response) { r.Op = api.OpSnapshot },
		"another Id":                func(r *api.Response) { r.Id = 2 },
		"no Id":                     func(r *api.Response) { r.Id = 0 },
	} {
		k := tailing(t, 5)
		r := right
		r.Records = append([]api.Record(nil), right.Records...)
		change(&r)
		k.hears(what, api.ErrSource, r)
		k.wantState(what, api.MirBroken, 5, 0, 0)
		k.asksNothing(what)
		k.hears(what, api.ErrSource, right)
		k.commits(what)
		k.wantNotes(what, 4, 5)
	}
}

// 22.4, the last rows: refusals of what it tails.
func TestTailIsRefused(t *testing.T) {
	for code := api.CodeBadRequest; code <= api.CodeBeyond; code++ {
		for _, op := range []int{api.OpSubscribe, api.OpDeliver} {
			for _, answered := range []bool{false, true} {
				k := tailing(t, 5)
				if !answered {
					k.m.Lost()
					k.tails("again", 1, 5)
				}
				what := fmt.Sprint("code ", code, " of ", op, ", answered: ", answered)
				r := api.Response{Id: 1, Op: op, Code: code, Offset: -3, Number: -3, Names: []string{"x"}, Records: []api.Record{value(9, "x", "y")}}
				k.hears(what, api.OK, r)
				k.m.Commit()
				if code == api.CodeHorizonPassed || code == api.CodeBeyond {
					k.wantState(what, api.MirSnap, 5, 0, 0)
					k.wantNoPlace(what)
					k.hears(what+", behind it", api.OK, delivered(1, 9, value(5, "a", "1")))
					k.snaps(what, 2)
					k.hears(what, api.OK, snapped(2, 6, 4))
					continue
				}
				k.wantState(what, api.MirIdle, 5, 0, 0)
				k.wantNotes(what, 4, 5)
				k.asksNothing(what)
				k.hears(what+", behind it", api.OK, delivered(1, 9, value(5, "a", "1")), subscribed(7, 7, 7))
				want(t, what+": what is no frame", k.m.Hear(-1, []byte{7, 7}), api.OK)
				k.wantState(what+", behind it", api.MirIdle, 5, 0, 0)
				k.m.Lost()
				k.tails(what+", lost", 1, 5)
			}
		}
	}
}
