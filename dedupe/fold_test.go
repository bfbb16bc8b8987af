package dedupe_test

import (
	"slices"
	"testing"

	"chronicle/api"
	"chronicle/probe"
)

// 9.6

func TestFoldOfTheExample(t *testing.T) {
	ps := []api.Prod{{Pid: 1, Seq: 3, Off: 10}}
	recs := []api.Record{rec(9, 1, 2), rec(20, 1, 5), rec(21, 9, 4), rec(22, 0, 0)}
	wantFold(t, "the example", ps, recs, []api.Prod{{Pid: 1, Seq: 5, Off: 20}, {Pid: 9, Seq: 4, Off: 21}}, api.OK)
}

func TestFoldOfFew(t *testing.T) {
	one := []api.Prod{{Pid: 4, Seq: 3, Off: 10}}
	tomb := api.Record{Kind: api.KTombstone, Offset: 30, Pid: 4, Seq: 9, Key: "k"}
	for what, c := range map[string]struct {
		ps     []api.Prod
		recs   []api.Record
		wanted []api.Prod
	}{
		"nothing":                           {nil, nil, nil},
		"empty lists":                       {[]api.Prod{}, []api.Record{}, nil},
		"no records":                        {one, nil, one},
		"no producers":                      {nil, []api.Record{rec(0, 1, 1)}, []api.Prod{{Pid: 1, Seq: 1, Off: 0}}},
		"records of no producer":            {one, []api.Record{rec(11, 0, 0), rec(12, 0, 0)}, one},
		"those alone":                       {nil, []api.Record{rec(11, 0, 0), rec(12, 0, 0)}, nil},
		"the last number again":             {one, []api.Record{rec(11, 4, 3)}, one},
		"the last number at an offset less": {one, []api.Record{rec(2, 4, 3)}, one},
		"a lower number":                    {one, []api.Record{rec(11, 4, 2)}, one},
		"the next number":                   {one, []api.Record{rec(11, 4, 4)}, []api.Prod{{Pid: 4, Seq: 4, Off: 11}}},
		"the next one, at an offset less":   {one, []api.Record{rec(2, 4, 4)}, []api.Prod{{Pid: 4, Seq: 4, Off: 2}}},
		"a number far above":                {one, []api.Record{rec(11, 4, lastSeq)}, []api.Prod{{Pid: 4, Seq: lastSeq, Off: 11}}},
		"a tombstone":                       {one, []api.Record{tomb}, []api.Prod{{Pid: 4, Seq: 9, Off: 30}}},
		"numbers that fall":                 {nil, []api.Record{rec(5, 2, 9), rec(6, 2, 8), rec(7, 2, 1)}, []api.Prod{{Pid: 2, Seq: 9, Off: 5}}},
		"numbers that come twice":           {nil, []api.Record{rec(5, 2, 1), rec(6, 2, 2), rec(7, 2, 1), rec(8, 2, 2)}, []api.Prod{{Pid: 2, Seq: 2, Off: 6}}},
		"numbers that leave some out":       {nil, []api.Record{rec(5, 2, 3), rec(6, 2, 7), rec(9, 2, 70)}, []api.Prod{{Pid: 2, Seq: 70, Off: 9}}},
		"producers that fall":               {one, []api.Record{rec(5, 9, 2), rec(6, 3, 2), rec(7, 1, 2)}, []api.Prod{{Pid: 1, Seq: 2, Off: 7}, {Pid: 3, Seq: 2, Off: 6}, {Pid: 4, Seq: 3, Off: 10}, {Pid: 9, Seq: 2, Off: 5}}},
		"the greatest numbers":              {nil, []api.Record{rec(lastOff, lastPid, lastSeq)}, []api.Prod{{Pid: lastPid, Seq: lastSeq, Off: lastOff}}},
	} {
		wantFold(t, what, c.ps, c.recs, c.wanted, api.OK)
	}
	for what, ps := range rightLists() {
		wantFold(t, what, ps, nil, ps, api.OK)
	}
}

// A record that may not be, wherever it stands: all is refused.
func TestFoldOfWrongRecords(t *testing.T) {
	right := []api.Record{rec(1, 5, 1), rec(2, 0, 0), rec(3, 5, 2), rec(4, 6, 1)}
	for r, errno := range wrongRecords() {
		for at := range len(right) + 1 {
			recs := slices.Insert(slices.Clone(right), at, r)
			for what, ps := range rightLists() {
				if len(ps) > 60 && at > 0 {
					continue // there the first producer too many comes ahead of it
				}
				wantFold(t, what, ps, recs, nil, errno)
			}
		}
	}
}

// As many producers as may be, those of the list and those of the records together.
func TestFoldOfTooManyProducers(t *testing.T) {
	var recs []api.Record
	for i := range int64(65) {
		recs = append(recs, rec(i, 1000-i, 3))
	}
	wanted, _ := slowFold(nil, recs[:64])
	want(t, "how many", len(wanted), 64)
	wantFold(t, "64 producers", nil, recs[:64], wanted, api.OK)
	wantFold(t, "65 producers", nil, recs, nil, api.ErrProds)
	full := many(64)
	wantFold(t, "one more", full, []api.Record{rec(5, 1, 1)}, nil, api.ErrProds)
	wantFold(t, "one more with a high number", full, []api.Record{rec(5, 1, 8)}, nil, api.ErrProds)
	wantFold(t, "none more", full, []api.Record{rec(5, 0, 0), rec(6, 10, 1), rec(7, 13, 1)}, full, api.OK)
	changed := slices.Clone(full)
	changed[1] = api.Prod{Pid: 13, Seq: 9, Off: 70}
	wantFold(t, "one of those that are there", full, []api.Record{rec(70, 13, 9)}, changed, api.OK)
	wantFold(t, "room for one", many(63), []api.Record{rec(5, 1, 8)}, append([]api.Prod{{Pid: 1, Seq: 8, Off: 5}}, many(63)...), api.OK)
	wantFold(t, "room for one, not for two", many(63), []api.Record{rec(5, 1, 8), rec(6, 2, 8)}, nil, api.ErrProds)
	wantFold(t, "room for one, that comes twice", many(63), []api.Record{rec(5, 1, 8), rec(6, 1, 8)}, append([]api.Prod{{Pid: 1, Seq: 8, Off: 5}}, many(63)...), api.OK)
}

// Whichever comes first, a producer too many or a record that may not be, is told; of one record its own faults are.
func TestFoldErrorsInTheirOrder(t *testing.T) {
	full, wrong, more := many(64), api.Record{Kind: 3, Pid: 1, Seq: 1, Key: "k"}, rec(5, 1, 1)
	wantFold(t, "a wrong record first", full, []api.Record{wrong, more}, nil, api.ErrKind)
	wantFold(t, "a producer too many first", full, []api.Record{more, wrong}, nil, api.ErrProds)
	wantFold(t, "both in one", full, []api.Record{wrong}, nil, api.ErrKind)
	for what, ps := range wrongLists() {
		for r := range wrongRecords() {
			wantFold(t, what+", and a wrong record", ps, []api.Record{r}, nil, api.ErrProds)
		}
		wantFold(t, what, ps, nil, nil, api.ErrProds)
		wantFold(t, what+", and a record", ps, []api.Record{rec(5, 0, 0)}, nil, api.ErrProds)
	}
}

// Long rows of records against the slow fold, some with too many producers and some with a wrong record.
func TestFoldAgainstTheSlowFold(t *testing.T) {
	told := map[api.Errno]int{}
	for seed := range uint64(300) {
		recs := noisy(seed+1, int(seed), 55+int64(seed%20))
		for i, x := range probe.Noise(seed+1000, len(recs)) {
			if x%1500 == 0 {
				recs[i].Kind = 9
			}
		}
		for _, ps := range [][]api.Prod{nil, {{Pid: 3, Seq: 5, Off: 1}, {Pid: 70, Seq: 1, Off: 1}}, many(int(seed % 30))} {
			wanted, errno := slowFold(ps, recs)
			wantFold(t, "noise", ps, recs, wanted, errno)
			told[errno]++
		}
	}
	for _, errno := range []api.Errno{api.OK, api.ErrProds, api.ErrKind} {
		if told[errno] < 20 {
			t.Errorf("%d was told %d times", errno, told[errno])
		}
	}
}

// noisy is n records of producers 0 to pids - 1, with numbers that rise and fall.
func noisy(seed uint64, n int, pids int64) []api.Record {
	var recs []api.Record
	for i, x := range probe.Noise(seed, n) {
		pid, seq := int64(x%uint64(pids)), int64(x>>20%10)+1
		if pid == 0 {
			seq = 0
		}
		recs = append(recs, rec(int64(i), pid, seq))
	}
	return recs
}
