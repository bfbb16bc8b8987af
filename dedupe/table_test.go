package dedupe_test

import (
	"math"
	"slices"
	"testing"

	"chronicle/api"
	"chronicle/dedupe"
	"chronicle/probe"
)

// 9.1

func TestNewOfRightLists(t *testing.T) {
	for what, ps := range rightLists() {
		table, s := tableOf(t, ps)
		wantAlike(t, what, table, s)
		wantList(t, what+": List", table.List(), ps)
	}
}

func TestNewOfWrongLists(t *testing.T) {
	for what, ps := range wrongLists() {
		if table, e := dedupe.New(ps); table != nil || e != api.ErrProds {
			t.Errorf("%s: New = %v, %d, want none, %d", what, table, e, api.ErrProds)
		}
	}
}

// Each number at its edges, whatever the two others are.
func TestNewAtTheEdges(t *testing.T) {
	offs := append(numbers(), 1000)
	for _, pid := range numbers() {
		for _, seq := range numbers() {
			for _, off := range offs {
				right := pid >= 1 && pid <= lastPid && seq >= 1 && seq <= lastSeq && off >= 0 && off <= lastOff
				p := api.Prod{Pid: pid, Seq: seq, Off: off}
				table, e := dedupe.New([]api.Prod{p})
				if right != (e == api.OK) || right != (table != nil) || !right && e != api.ErrProds {
					t.Fatalf("New(%v) = %v, %d", p, table, e)
				}
				if right {
					wantList(t, "List", table.List(), []api.Prod{p})
				}
			}
		}
	}
}

// Pids rise or not: all lists of up to four of a few.
func TestNewTakesRisingPidsAlone(t *testing.T) {
	var try func(list []api.Prod, right bool)
	try = func(list []api.Prod, right bool) {
		table, e := dedupe.New(list)
		if right != (e == api.OK) || right != (table != nil) {
			t.Errorf("New(%v) = %v, %d", list, table, e)
		}
		if len(list) == 4 {
			return
		}
		for pid := range int64(6) {
			rises := len(list) == 0 || list[len(list)-1].Pid < pid
			try(append(slices.Clone(list), api.Prod{Pid: pid, Seq: 9 - pid, Off: 3}), right && pid > 0 && rises)
		}
	}
	try(nil, true)
}

// 9.5

func TestListRises(t *testing.T) {
	table, s := tableOf(t, nil)
	for i, x := range probe.Noise(5, 64) {
		pid, off := int64(x%lastPid)+1, int64(x>>30)
		want(t, "Note", table.Note(pid, 1, off), api.OK)
		s.note(pid, 1, off)
		list := table.List()
		want(t, "how many", len(list), i+1)
		wantList(t, "List", list, s.told())
		again, e := dedupe.New(list)
		want(t, "New of a table's list", e, api.OK)
		wantList(t, "List of it", again.List(), list)
	}
	for range 50 {
		wantList(t, "List once more", table.List(), s.told())
	}
}

// A table and its clone, each changed behind it, and a clone of the clone.
func TestClonesAreOfTheirOwn(t *testing.T) {
	for what, ps := range rightLists() {
		table, s := tableOf(t, ps)
		clone, c := table.Clone(), s.copy()
		if clone == nil {
			t.Fatalf("%s: Clone is nil", what)
		}
		wantAlike(t, what+": a clone", clone, c)
		change := func(table *dedupe.Table, s *slow, off int64) {
			for _, pid := range []int64{1, 2, 3, 5, 10, 13, lastPid} {
				for seq := range int64(6) {
					want(t, what+": Note", table.Note(pid, seq, off), s.note(pid, seq, off))
				}
			}
		}
		change(clone, c, 77)
		wantAlike(t, what+": the table, behind a change of its clone", table, s)
		wantAlike(t, what+": the clone, changed", clone, c)
		third, d := clone.Clone(), c.copy()
		change(table, s, 78)
		change(table, s, 79)
		wantAlike(t, what+": the clone, behind a change of the table", clone, c)
		wantAlike(t, what+": the table, changed", table, s)
		wantAlike(t, what+": a clone of the clone", third, d)
		change(third, d, 80)
		wantAlike(t, what+": a clone of the clone, changed", third, d)
		wantAlike(t, what+": what it was made of", clone, c)
	}
}

// 9.2, 9.3, 9.4 and 9.5 of a nil table
func TestNilTable(t *testing.T) {
	var table *dedupe.Table
	for _, pid := range numbers() {
		for _, seq := range numbers() {
			wantJudged(t, table, pid, seq, -1, 0)
			want(t, "Refuse", table.Refuse(pid, seq), api.ErrNil)
			for _, off := range []int64{math.MinInt64, -1, 0, 5, lastOff, lastOff + 1} {
				want(t, "Note", table.Note(pid, seq, off), api.ErrNil)
			}
		}
	}
	want(t, "how many", len(table.List()), 0)
	want(t, "Clone", table.Clone(), nil)
}

// One that New did not make is as good as an empty one.
func TestZeroTable(t *testing.T) {
	table, s := &dedupe.Table{}, &slow{}
	wantAlike(t, "a zero table", table, s)
	clone := table.Clone()
	for _, table := range []*dedupe.Table{table, clone} {
		want(t, "Note of none", table.Note(0, 0, 5), api.OK)
		want(t, "Note", table.Note(4, 1, 5), api.OK)
		wantAlike(t, "a zero table with a producer", table, &slow{list: []api.Prod{{Pid: 4, Seq: 1, Off: 5}}})
	}
}

// Tables know nothing of each other.
func TestTablesAreOfTheirOwn(t *testing.T) {
	first, s := tableOf(t, many(3))
	second, _ := tableOf(t, many(3))
	first.Note(1, 1, 5)
	first.Note(13, 3, 6)
	wantAlike(t, "another table of the same list", second, s)
	third, s := tableOf(t, nil)
	wantAlike(t, "a table made behind it", third, s)
}
