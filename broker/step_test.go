package broker_test

import (
	"fmt"
	"math"
	"testing"

	"chronicle/api"
)

// 20.10
func TestStepTimes(t *testing.T) {
	for now, is := range times() {
		k := served(t, 1)
		k.say(1, ping())
		d, e := k.b.Step(now, 0)
		if is {
			want(t, fmt.Sprint("at ", now), d, did(1, 0, api.OpPing, 0))
			want(t, fmt.Sprint("at ", now), e, api.OK)
			continue
		}
		want(t, fmt.Sprint("at ", now), d, api.Did{})
		want(t, fmt.Sprint("at ", now), e, api.ErrArg)
		k.hear(1)
		k.step(0, did(1, 0, api.OpPing, 0)) // nothing was done
	}
}

// busy is a store in which just these classes have work.
func busy(t *testing.T, work [4]bool) *desk {
	t.Helper()
	k := served(t, 2, "t", "u")
	if work[api.ClMerge] {
		k.fill(1, 1, "t", "k", 3)
	}
	if work[api.ClDeliver] {
		k.ask(2, id(1, snapshot("u", "")), did(2, 2, api.OpSnapshot, api.CodeOK))
	}
	if work[api.ClCommit] {
		k.write(1, 2, "u", "a", "1")
	}
	if work[api.ClRequest] {
		k.say(2, ping())
	}
	return k
}

// deeds is what is done in such a store for each class.
func deeds() [4]api.Did {
	return [4]api.Did{did(2, 0, api.OpPing, 0), {What: api.DidCommit, Count: 1}, delivered(2, 0), merged(1, api.MgDrop)}
}

// 20.10: each pick while some classes have work.
func TestPicks(t *testing.T) {
	for bits := range 16 {
		var work [4]bool
		for class := range work {
			work[class] = bits>>class&1 == 1
		}
		for pick := -5; pick < 9; pick++ {
			wanted := api.Did{}
			for i := range 4 {
				if class := ((pick+i)%4 + 4) % 4; work[class] {
					wanted = deeds()[class]
					break
				}
			}
			k := busy(t, work)
			k.step(pick, wanted)
		}
	}
	k := busy(t, [4]bool{true, true, true, true})
	k.step(math.MaxInt, deeds()[3])
	k.step(math.MinInt, deeds()[0])
	k.step(math.MinInt+2, deeds()[2])
}

// 20.10: a class that has waited long is served, whatever is picked.
func TestOverdue(t *testing.T) {
	k := busy(t, [4]bool{false, true, true, true})
	for i := range 13 {
		k.say(2, id(uint32(i), ping()))
	}
	waited := 0 // since the commit's work came: busy's merge and delivery have waited longer
	for d, e := k.b.Step(0, 0); d.What == api.DidRequest; d, e = k.b.Step(0, 0) {
		want(t, "Step", e, api.OK)
		waited++
	}
	if waited > 13 {
		t.Errorf("%d requests ahead of all else", waited)
	}
	k.say(2, ping(), ping(), ping())
	var seen [5]int
	for range 3 {
		d, _ := k.b.Step(0, 0)
		seen[d.What]++
	}
	if seen[api.DidRequest] > 2 {
		t.Errorf("nothing else is served: %v", seen)
	}
}

// 20.10: with nothing to do the counts are forgotten, and nothing is changed.
func TestNothingToDo(t *testing.T) {
	k := served(t, 1, "t")
	undone(t, "nothing to do", k.d, func() {
		for pick := range 40 {
			k.step(pick, api.Did{What: api.DidNothing})
		}
	})
	k.hear(1)
}

// 20.10: in which order connections are served: four requests a turn.
func TestTurns(t *testing.T) {
	k := served(t, 3)
	for conn := range 3 {
		for i := range 6 {
			k.say(conn+1, id(uint32(i), ping()))
		}
	}
	var got []int
	for range 18 {
		d, _ := k.b.Step(0, 0)
		got = append(got, d.Conn)
	}
	wantList(t, "whose turn", got, []int{1, 1, 1, 1, 2, 2, 2, 2, 3, 3, 3, 3, 1, 1, 2, 2, 3, 3})
	for conn := range 3 {
		var list []api.Response
		for i := range 6 {
			list = append(list, answer(uint32(i), api.OpPing, 0))
		}
		k.hear(conn+1, list...)
	}
}

// 20.10a: the groups' own topic first, then numbers rising, whatever the order in which the answers came to be owed.
func TestSettleOrder(t *testing.T) {
	k := served(t, 2, "b", "a", "c")
	for _, conn := range []int{2, 1} {
		k.ask(conn, id(1, put("c", "k", "")), did(conn, 3, api.OpPut, -1))
		k.ask(conn, id(2, put("b", "k", "")), did(conn, 1, api.OpPut, -1))
		k.ask(conn, id(3, join("g")), did(conn, 0, api.OpJoin, -1))
		k.ask(conn, id(4, put("a", "k", "")), did(conn, 2, api.OpPut, -1))
		k.ask(conn, id(5, put("b", "k", "")), did(conn, 1, api.OpPut, -1))
	}
	k.hear(1)
	k.hear(2)
	k.commit(4)
	k.hear(2, api.Response{Id: 3, Op: api.OpJoin, Number: 1}, api.Response{Id: 2, Op: api.OpPut}, api.Response{Id: 5, Op: api.OpPut, Offset: 1}, api.Response{Id: 4, Op: api.OpPut}, api.Response{Id: 1, Op: api.OpPut})
	k.hear(1, api.Response{Id: 3, Op: api.OpJoin, Number: 2}, api.Response{Id: 2, Op: api.OpPut, Offset: 2}, api.Response{Id: 5, Op: api.OpPut, Offset: 3}, api.Response{Id: 4, Op: api.OpPut, Offset: 1}, api.Response{Id: 1, Op: api.OpPut, Offset: 1})
}

// 20.10a: a roll in the midst of an append commits what was pending, and it is told at once.
func TestSettleByARoll(t *testing.T) {
	k := served(t, 2, "t", "u")
	k.ask(1, id(1, put("t", "a", bulk(1))), did(1, 1, api.OpPut, -1))
	k.ask(2, id(2, put("t", "b", bulk(2))), did(2, 1, api.OpPut, -1))
	k.ask(1, id(3, put("u", "x", "")), did(1, 2, api.OpPut, -1))
	k.hear(1)
	k.ask(2, id(4, put("t", "c", bulk(3))), did(2, 1, api.OpPut, -1))
	k.hear(1, api.Response{Id: 1, Op: api.OpPut})
	k.hear(2, api.Response{Id: 2, Op: api.OpPut, Offset: 1})
	k.wantState("rolled", 2, 2, 2, 0)
	k.commit(2)
	k.hear(1, api.Response{Id: 3, Op: api.OpPut})
	k.hear(2, api.Response{Id: 4, Op: api.OpPut, Offset: 2})
}

// 20.10a: an append that is refused may have rolled: what it committed is told, behind the refusal.
func TestSettleByARefusedAppend(t *testing.T) {
	k := served(t, 1, "t")
	k.ask(1, id(1, put("t", "a", bulk(1))), did(1, 1, api.OpPut, -1))
	k.ask(1, id(2, put("t", "b", bulk(2))), did(1, 1, api.OpPut, -1))
	want(t, "Create", k.d.Create("t1.2.seg"), api.OK) // a file that stands in the way of the new segment
	k.ask(1, id(3, put("t", "c", bulk(3))), did(1, 1, api.OpPut, api.CodeBadRequest))
	k.hear(1, answer(3, api.OpPut, api.CodeBadRequest), api.Response{Id: 1, Op: api.OpPut}, api.Response{Id: 2, Op: api.OpPut, Offset: 1})
	k.wantState("rolled", 1, 1, 0, 0)
}

// 20.12
func TestCommit(t *testing.T) {
	k := served(t, 1, "t", "u", "v")
	k.ask(1, join("g"), did(1, 0, api.OpJoin, -1))
	k.wantState("the groups' own one", 1, 3, 1, 0)
	k.commit(1)
	k.rest()
	k.write(1, 3, "v", "a", "1")
	k.commit(1)
	k.ask(1, join("g"), did(1, 0, api.OpJoin, -1))
	k.write(1, 3, "v", "a", "1")
	k.write(1, 3, "v", "b", "2")
	k.write(1, 1, "t", "a", "1")
	k.wantState("many", 1, 3, 4, 0)
	ops := k.d.Ops()
	k.commit(3)
	want(t, "operations", k.d.Ops()-ops, 3)
	k.wantState("committed", 1, 3, 0, 0)
	k.rest()
	k.wantRecords("committed", "t", value(0, "a", "1"))
	k.wantRecords("committed", "u")
	k.wantRecords("committed", "v", value(0, "a", "1"), value(1, "a", "1"), value(2, "b", "2"))
}

// 20.12: by rising numbers, the groups' own one first: where the power goes, those ahead are committed.
func TestCommitOrder(t *testing.T) {
	for fuse := range 3 {
		k := served(t, 1, "b", "a")
		k.write(1, 2, "a", "k", "")
		k.write(1, 1, "b", "k", "")
		k.ask(1, join("g"), did(1, 0, api.OpJoin, -1))
		k.d.Fuse(fuse)
		d, e := k.b.Step(0, api.ClCommit)
		want(t, "Step", d, api.Did{})
		want(t, "Step", e, api.ErrDead)
		left := filesOf(k.d.Crash(nil)) // what is not synced is gone
		seen := filesOf(k.d.Image())
		for i, name := range []string{"t0.1.seg", "t1.1.seg", "t2.1.seg"} {
			want(t, fmt.Sprintf("a fuse of %d: %s is committed", fuse, name), left[name] == seen[name], i < fuse)
		}
	}
}

// 20.13
func TestDeliveryTurns(t *testing.T) {
	k := served(t, 4, "t", "u")
	for i := range 12 {
		k.write(1, 1, "t", fmt.Sprint("k", i), bulk(i))
	}
	k.settle(1)
	for k.b.State().Merges > 0 {
		k.b.Step(0, api.ClMerge)
	}
	// One piece of a replay each; the third has nothing to tell.
	for _, conn := range []int{4, 2, 1} {
		k.ask(conn, id(1, snapshot("u", "")), did(conn, 2, api.OpSnapshot, 0))
		k.ask(conn, id(2, snapshot("u", "")), did(conn, 2, api.OpSnapshot, 0))
	}
	k.ask(3, id(1, subscribe("t", 12)), did(3, 1, api.OpSubscribe, 0))
	turn := func(conns ...int) {
		t.Helper()
		for _, conn := range conns {
			k.step(api.ClDeliver, delivered(conn, 0))
		}
	}
	turn(1, 2, 4, 1)
	// A connection that begins behind the last one has its turn in its place.
	want(t, "Connect", k.connect(), 5)
	k.ask(5, id(1, replay("t", 12)), did(5, 1, api.OpReplay, 0))
	want(t, "Shut", k.b.Shut(2), api.OK)
	turn(4, 5)
	k.ask(1, id(1, snapshot("u", "")), did(1, 2, api.OpSnapshot, 0))
	k.ask(4, id(1, snapshot("u", "")), did(4, 2, api.OpSnapshot, 0))
	turn(1, 4)
	k.ask(1, id(1, snapshot("u", "")), did(1, 2, api.OpSnapshot, 0))
	turn(1)
	k.rest()
}

// 20.13: who has much to hear is served in turn with others, and is told all.
func TestDeliveriesCount(t *testing.T) {
	k := served(t, 2, "t")
	for i := range 6 {
		k.write(1, 1, "t", fmt.Sprint("k", i), string(make([]byte, 1000)))
		k.ask(1, put("t", fmt.Sprint("l", i), text(i)), did(1, 1, api.OpPut, -1))
	}
	k.settle(1)
	for conn := 1; conn <= 2; conn++ {
		k.ask(conn, id(5, replay("t", 0)), did(conn, 1, api.OpReplay, 0))
	}
	seen := map[int]int{}
	var turns []int
	for {
		d, e := k.b.Step(0, api.ClDeliver)
		want(t, "Step", e, api.OK)
		if d.What != api.DidDeliver {
			break
		}
		seen[d.Conn] += d.Count
		turns = append(turns, d.Conn)
	}
	want(t, "records", seen[1], 12)
	want(t, "records", seen[2], 12)
	for i, conn := range turns {
		want(t, "whose turn", conn, i%2+1)
	}
}

// text is a value that is as long as may be.
func text(n int) string { return bulk(n) + fmt.Sprintf("%0930d", n) }
