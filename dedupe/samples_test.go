package dedupe_test

import (
	"math"
	"slices"
	"testing"

	"chronicle/api"
	"chronicle/dedupe"
	"chronicle/record"
)

// The greatest numbers that may be.
const (
	lastPid = 4294967295
	lastSeq = 1099511627775
	lastOff = 1099511627775
)

// numbers is the edges of all ranges, and what lies beyond them.
func numbers() []int64 {
	list := []int64{math.MinInt64, math.MinInt64 + 1, -lastSeq, -lastPid, -2, -1, 0, 1, 2, 3, 4, 5, 6, 7, 63, 64, 65, 1 << 31, math.MaxInt64 - 1, math.MaxInt64}
	for _, edge := range []int64{1 << 32, 1 << 40} {
		list = append(list, edge-3, edge-2, edge-1, edge, edge+1, edge+2)
	}
	return list
}

// many is n producers with unlike numbers and offsets, the offsets falling.
func many(n int) []api.Prod {
	var list []api.Prod
	for i := range n {
		list = append(list, api.Prod{Pid: int64(3*i + 10), Seq: int64(i%4 + 1), Off: int64(1000 - i)})
	}
	return list
}

// rightLists is lists of producers that are right: few of them and many, and with each number at its ends.
func rightLists() map[string][]api.Prod {
	return map[string][]api.Prod{
		"none":                 nil,
		"an empty list":        {},
		"one":                  {{Pid: 5, Seq: 4, Off: 9}},
		"the least":            {{Pid: 1, Seq: 1, Off: 0}},
		"the greatest":         {{Pid: lastPid, Seq: lastSeq, Off: lastOff}},
		"of the example":       {{Pid: 1, Seq: 3, Off: 10}, {Pid: 7, Seq: 1, Off: 4}},
		"side by side":         {{Pid: 1, Seq: 2, Off: 5}, {Pid: 2, Seq: 2, Off: 5}, {Pid: 3, Seq: 1, Off: 5}},
		"from end to end":      {{Pid: 1, Seq: 1, Off: 0}, {Pid: 2, Seq: lastSeq - 1, Off: lastOff}, {Pid: lastPid - 1, Seq: lastSeq, Off: 0}, {Pid: lastPid, Seq: 1, Off: 1}},
		"one less than may be": many(63),
		"as many as may be":    many(64),
	}
}

// wrongLists is lists of producers that are not right, each for one reason.
func wrongLists() map[string][]api.Prod {
	lists := map[string][]api.Prod{
		"65 producers":        many(65),
		"far too many":        many(1000),
		"65 times none":       make([]api.Prod, 65),
		"alike":               {{Pid: 7, Seq: 1, Off: 1}, {Pid: 7, Seq: 1, Off: 1}},
		"alike, other number": {{Pid: 7, Seq: 1, Off: 1}, {Pid: 7, Seq: 2, Off: 2}},
		"falling":             {{Pid: 7, Seq: 1, Off: 4}, {Pid: 1, Seq: 3, Off: 10}},
		"falling by one":      {{Pid: 7, Seq: 1, Off: 4}, {Pid: 6, Seq: 1, Off: 4}},
		"falling at the end":  {{Pid: 1, Seq: 1, Off: 4}, {Pid: 7, Seq: 1, Off: 4}, {Pid: 5, Seq: 1, Off: 4}},
		"alike at the end":    append(many(63), many(63)[62]),
		"zeros":               {{}},
		"a zero behind":       {{Pid: 1, Seq: 1, Off: 1}, {}},
	}
	for what, edge := range map[string]api.Prod{
		"Pid 0":               {Pid: 0, Seq: 1, Off: 1},
		"Pid -1":              {Pid: -1, Seq: 1, Off: 1},
		"Pid MaxPid":          {Pid: lastPid + 1, Seq: 1, Off: 1},
		"Pid far above":       {Pid: math.MaxInt64, Seq: 1, Off: 1},
		"Pid far below":       {Pid: math.MinInt64, Seq: 1, Off: 1},
		"Pid 1 in its low 32": {Pid: 1<<32 + 100, Seq: 1, Off: 1},
		"Seq 0":               {Pid: 100, Seq: 0, Off: 1},
		"Seq -1":              {Pid: 100, Seq: -1, Off: 1},
		"Seq MaxSeq":          {Pid: 100, Seq: lastSeq + 1, Off: 1},
		"Seq far above":       {Pid: 100, Seq: math.MaxInt64, Off: 1},
		"Seq far below":       {Pid: 100, Seq: math.MinInt64, Off: 1},
		"Off -1":              {Pid: 100, Seq: 1, Off: -1},
		"Off MaxOffset":       {Pid: 100, Seq: 1, Off: lastOff + 1},
		"Off far above":       {Pid: 100, Seq: 1, Off: math.MaxInt64},
		"Off far below":       {Pid: 100, Seq: 1, Off: math.MinInt64},
	} {
		lists[what] = []api.Prod{edge}
		lists[what+", first"] = []api.Prod{edge, {Pid: 200, Seq: 1, Off: 1}}
		lists[what+", last"] = []api.Prod{{Pid: 20, Seq: 1, Off: 1}, edge}
	}
	return lists
}

// rec is a record of a producer.
func rec(off, pid, seq int64) api.Record {
	return api.Record{Kind: api.KValue, Offset: off, Time: 7, Pid: pid, Seq: seq, Key: "k", Value: "v"}
}

// wrongRecords is records that may not be, with the errors that record.Check tells of them.
func wrongRecords() map[api.Record]api.Errno {
	long := string(make([]byte, api.MaxValue+1))
	return map[api.Record]api.Errno{
		{}:                                  api.ErrKind,
		{Kind: 3, Pid: 1, Seq: 1, Key: "k"}: api.ErrKind,
		rec(-1, 1, 1):                       api.ErrNumber,
		rec(lastOff+1, 1, 1):                api.ErrNumber,
		rec(5, 0, 1):                        api.ErrNumber,
		rec(5, 1, 0):                        api.ErrNumber,
		rec(5, -1, 1):                       api.ErrNumber,
		rec(5, 1, -1):                       api.ErrNumber,
		rec(5, lastPid+1, 1):                api.ErrNumber,
		rec(5, 1, lastSeq+1):                api.ErrNumber,
		{Kind: api.KValue, Time: -1, Pid: 1, Seq: 1, Key: "k"}:              api.ErrNumber,
		{Kind: api.KValue, Pid: 1, Seq: 1}:                                  api.ErrKey,
		{Kind: api.KValue, Pid: 1, Seq: 1, Key: "k", Value: long}:           api.ErrValue,
		{Kind: api.KTombstone, Pid: 1, Seq: 1, Key: "k", Value: "anything"}: api.ErrValue,
	}
}

// slow is a table as the chapter tells it: a list in no order, of which each line of the chapter's table is asked in its turn.
type slow struct{ list []api.Prod }

func (s *slow) place(pid int64) int {
	return slices.IndexFunc(s.list, func(p api.Prod) bool { return p.Pid == pid })
}

func (s *slow) judge(pid, seq int64) (int, int64) {
	i := s.place(pid)
	switch {
	case pid < 0 || pid >= 4294967296:
		return -1, 0
	case pid == 0 && seq != 0:
		return -1, 0
	case pid > 0 && (seq < 1 || seq >= 1099511627776):
		return -1, 0
	case pid == 0:
		return 0, 0
	case i >= 0 && seq == s.list[i].Seq:
		return 2, s.list[i].Off
	case i >= 0 && seq-1 == s.list[i].Seq:
		return 1, 0
	case i >= 0 && seq < s.list[i].Seq:
		return 3, 0
	case i >= 0 || seq != 1:
		return 4, 0
	case len(s.list) == 64:
		return 5, 0
	}
	return 1, 0
}

func (s *slow) refuse(pid, seq int64) api.Errno {
	switch verdict, _ := s.judge(pid, seq); verdict {
	case -1:
		return 93
	case 3:
		return 91
	case 4:
		return 90
	case 5:
		return 92
	}
	return 0
}

func (s *slow) note(pid, seq, off int64) api.Errno {
	if e := s.refuse(pid, seq); e != 0 {
		return e
	}
	if off < 0 || off >= 1099511627776 {
		return api.ErrArg
	}
	if verdict, _ := s.judge(pid, seq); verdict == 1 {
		s.set(api.Prod{Pid: pid, Seq: seq, Off: off})
	}
	return api.OK
}

func (s *slow) set(p api.Prod) {
	s.list = slices.DeleteFunc(s.list, func(q api.Prod) bool { return q.Pid == p.Pid })
	s.list = append(s.list, p)
}

// told is the producers, each behind as many as are below it.
func (s *slow) told() []api.Prod {
	list := make([]api.Prod, len(s.list))
	for _, p := range s.list {
		below := 0
		for _, q := range s.list {
			if q.Pid < p.Pid {
				below++
			}
		}
		list[below] = p
	}
	return list
}

func (s *slow) copy() *slow { return &slow{list: slices.Clone(s.list)} }

// slowFold is a fold as the chapter tells it, of a right list.
func slowFold(ps []api.Prod, recs []api.Record) ([]api.Prod, api.Errno) {
	s := &slow{list: slices.Clone(ps)}
	for _, r := range recs {
		if e := record.Check(r); e != api.OK {
			return nil, e
		}
		i := s.place(r.Pid)
		if r.Pid > 0 && i < 0 && len(s.list) == 64 {
			return nil, api.ErrProds
		}
		if r.Pid > 0 && (i < 0 || s.list[i].Seq < r.Seq) {
			s.set(api.Prod{Pid: r.Pid, Seq: r.Seq, Off: r.Offset})
		}
	}
	return s.told(), api.OK
}

// tableOf is a table of a right list, and the slow one.
func tableOf(t *testing.T, ps []api.Prod) (*dedupe.Table, *slow) {
	t.Helper()
	table, e := dedupe.New(ps)
	if table == nil || e != api.OK {
		t.Fatalf("New(%v) = %v, %d", ps, table, e)
	}
	return table, &slow{list: slices.Clone(ps)}
}

// want fails if an answer is another one than is wanted.
func want[T comparable](t *testing.T, what string, got, wanted T) {
	t.Helper()
	if got != wanted {
		t.Errorf("%s: %v, want %v", what, got, wanted)
	}
}

func wantList[T comparable](t *testing.T, what string, got, wanted []T) {
	t.Helper()
	if !slices.Equal(got, wanted) {
		t.Errorf("%s: %.300v, want %.300v", what, got, wanted)
	}
}

// wantJudged fails unless a number is judged so, with that offset.
func wantJudged(t *testing.T, table *dedupe.Table, pid, seq int64, verdict int, off int64) {
	t.Helper()
	if v, o := table.Judge(pid, seq); v != verdict || o != off {
		t.Errorf("Judge(%d, %d) = %d, %d, want %d, %d", pid, seq, v, o, verdict, off)
	}
}

// wantAlike fails unless a table tells and judges as the slow one does, at all edges.
func wantAlike(t *testing.T, what string, table *dedupe.Table, s *slow) {
	t.Helper()
	wantList(t, what+": List", table.List(), s.told())
	pids, seqs := numbers(), numbers()
	for _, p := range s.list {
		pids = append(pids, p.Pid-1, p.Pid, p.Pid+1)
		seqs = append(seqs, p.Seq-1, p.Seq, p.Seq+1, p.Seq+2)
	}
	slices.Sort(pids)
	slices.Sort(seqs)
	seqs = slices.Compact(seqs)
	for _, pid := range slices.Compact(pids) {
		for _, seq := range seqs {
			verdict, off := s.judge(pid, seq)
			wantJudged(t, table, pid, seq, verdict, off)
			if e, wanted := table.Refuse(pid, seq), s.refuse(pid, seq); e != wanted {
				t.Errorf("%s: Refuse(%d, %d) = %d, want %d", what, pid, seq, e, wanted)
			}
		}
	}
	wantList(t, what+": List behind all that was asked", table.List(), s.told())
}

// wantFold fails unless a fold answers so.
func wantFold(t *testing.T, what string, ps []api.Prod, recs []api.Record, wanted []api.Prod, errno api.Errno) {
	t.Helper()
	if got, e := dedupe.Fold(ps, recs); e != errno || !slices.Equal(got, wanted) {
		t.Errorf("%s: Fold = %.300v, %d, want %.300v, %d", what, got, e, wanted, errno)
	}
}

// fold is a fold that is answered OK.
func fold(t *testing.T, ps []api.Prod, recs []api.Record) []api.Prod {
	t.Helper()
	list, e := dedupe.Fold(ps, recs)
	if e != api.OK {
		t.Fatalf("Fold(%.300v, %.300v) = %d", ps, recs, e)
	}
	return list
}
