package dedupe_test

import (
	"slices"
	"testing"

	"chronicle/api"
	"chronicle/dedupe"
	"chronicle/probe"
)

// roomy is a copy of a list with room behind its end, which holds something too, and a check that neither was changed.
func roomy[T comparable](list []T, behind T) ([]T, func() bool) {
	whole := append(slices.Clone(list), behind, behind, behind)
	kept := slices.Clone(whole)
	return whole[:len(list)], func() bool { return slices.Equal(whole, kept) }
}

// 9.7

func TestListsHandedInAreNotChanged(t *testing.T) {
	behind := api.Prod{Pid: 2, Seq: 99, Off: 99}
	recs, alike := roomy([]api.Record{rec(4, 5, 8), rec(3, 1, 9), rec(5, 0, 0), {Kind: 9}}, rec(6, 2, 4))
	for _, lists := range []map[string][]api.Prod{rightLists(), wrongLists()} {
		for what, list := range lists {
			ps, same := roomy(list, behind)
			if table, e := dedupe.New(ps); e == api.OK {
				table.Note(1, 1, 5)
				table.Note(5, 5, 6)
				table.Note(10, 2, 7)
				probe.Scribble(append(table.List(), behind))
			}
			for n := range len(recs) + 1 {
				got, _ := dedupe.Fold(ps, recs[:n])
				probe.Scribble(append(got, behind))
			}
			if !same() || !alike() {
				t.Errorf("%s: what was handed in is changed, or what is behind it", what)
			}
		}
	}
}

func TestListsHandedInAreNotKept(t *testing.T) {
	for what, list := range rightLists() {
		ps := slices.Clone(list)
		table, s := tableOf(t, ps)
		probe.Scribble(ps)
		wantAlike(t, what+": a table whose list was written over", table, s)

		ps, recs := slices.Clone(list), []api.Record{rec(5, 0, 0)}
		folded := fold(t, ps, recs)
		probe.Scribble(ps)
		probe.Scribble(recs)
		wantList(t, what+": a fold whose lists were written over", folded, list)
	}
}

func TestListsAreNewMemory(t *testing.T) {
	for what, list := range rightLists() {
		table, s := tableOf(t, list)
		first, second := table.List(), table.List()
		probe.Scribble(append(first, api.Prod{Pid: 9, Seq: 9, Off: 9}))
		probe.Scribble(first)
		wantList(t, what+": a second list", second, list)
		wantAlike(t, what+": the table behind what was done to its list", table, s)

		clone := table.Clone()
		probe.Scribble(clone.List())
		wantAlike(t, what+": the table behind what was done to its clone's list", table, s)
		wantAlike(t, what+": the clone", clone, s)

		one, two := fold(t, list, nil), fold(t, list, nil)
		probe.Scribble(append(one, api.Prod{Pid: 9, Seq: 9, Off: 9}))
		probe.Scribble(one)
		wantList(t, what+": a second fold", two, list)
		wantList(t, what+": a third fold", fold(t, list, nil), list)
	}
}

// A list stays as it is, whatever is done to the table.
func TestListsOutliveChanges(t *testing.T) {
	table, s := tableOf(t, many(5))
	list := table.List()
	table.Note(10, 2, 5)
	table.Note(1, 1, 6)
	wantList(t, "a list of what was there", list, s.told())
}
