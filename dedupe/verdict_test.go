package dedupe_test

import (
	"math"
	"testing"

	"chronicle/api"
	"chronicle/probe"
)

// 9.2 and 9.3

func TestJudgeOfTheExample(t *testing.T) {
	table, s := tableOf(t, []api.Prod{{Pid: 1, Seq: 3, Off: 10}, {Pid: 7, Seq: 1, Off: 4}})
	for _, c := range []struct {
		pid, seq int64
		verdict  int
		off      int64
		errno    api.Errno
	}{
		{1, 4, api.VFresh, 0, api.OK},
		{1, 3, api.VAgain, 10, api.OK},
		{1, 2, api.VStale, 0, api.ErrStale},
		{1, 1, api.VStale, 0, api.ErrStale},
		{1, 5, api.VGap, 0, api.ErrSeq},
		{1, lastSeq, api.VGap, 0, api.ErrSeq},
		{7, 1, api.VAgain, 4, api.OK},
		{7, 2, api.VFresh, 0, api.OK},
		{7, 3, api.VGap, 0, api.ErrSeq},
		{2, 1, api.VFresh, 0, api.OK},
		{2, 2, api.VGap, 0, api.ErrSeq},
		{lastPid, 1, api.VFresh, 0, api.OK},
		{lastPid, 2, api.VGap, 0, api.ErrSeq},
		{lastPid, lastSeq, api.VGap, 0, api.ErrSeq},
		{0, 0, api.VFree, 0, api.OK},
		{0, 1, -1, 0, api.ErrPid},
		{0, -1, -1, 0, api.ErrPid},
		{-1, 0, -1, 0, api.ErrPid},
		{-1, 1, -1, 0, api.ErrPid},
		{1, 0, -1, 0, api.ErrPid},
		{1, -1, -1, 0, api.ErrPid},
		{7, 0, -1, 0, api.ErrPid},
		{2, 0, -1, 0, api.ErrPid},
		{1 << 32, 1, -1, 0, api.ErrPid},
		{1 << 32, 0, -1, 0, api.ErrPid},
		{1<<32 + 1, 4, -1, 0, api.ErrPid},
		{1, 1 << 40, -1, 0, api.ErrPid},
		{1, 1<<40 + 4, -1, 0, api.ErrPid},
		{2, 1 << 40, -1, 0, api.ErrPid},
		{math.MaxInt64, math.MaxInt64, -1, 0, api.ErrPid},
		{math.MinInt64, math.MinInt64, -1, 0, api.ErrPid},
	} {
		wantJudged(t, table, c.pid, c.seq, c.verdict, c.off)
		if e := table.Refuse(c.pid, c.seq); e != c.errno {
			t.Errorf("Refuse(%d, %d) = %d, want %d", c.pid, c.seq, e, c.errno)
		}
	}
	wantAlike(t, "the table behind all that was asked", table, s)
}

// With one producer less than may be there is room for one more; with as many as may be, for those that are there alone.
func TestJudgeOfFullTables(t *testing.T) {
	table, s := tableOf(t, many(63))
	wantJudged(t, table, 1, 1, api.VFresh, 0)
	wantJudged(t, table, 1, 2, api.VGap, 0)
	want(t, "Note", table.Note(1, 1, 5), api.OK)
	s.note(1, 1, 5)
	wantAlike(t, "filled", table, s)
	wantJudged(t, table, 2, 1, api.VFull, 0)
	wantJudged(t, table, 2, 2, api.VGap, 0)
	wantJudged(t, table, 2, 0, -1, 0)
	wantJudged(t, table, 0, 0, api.VFree, 0)
	wantJudged(t, table, 1, 1, api.VAgain, 5)
	wantJudged(t, table, 1, 2, api.VFresh, 0)
	wantJudged(t, table, 13, 1, api.VStale, 0)
	wantJudged(t, table, 13, 2, api.VAgain, 999)
	wantJudged(t, table, 13, 3, api.VFresh, 0)
	wantJudged(t, table, 13, 4, api.VGap, 0)
	want(t, "Refuse", table.Refuse(2, 1), api.ErrProds)
	want(t, "Note", table.Note(2, 1, 5), api.ErrProds)
	want(t, "Note", table.Note(13, 3, 1005), api.OK)
	s.note(13, 3, 1005)
	wantAlike(t, "a full one with another number", table, s)
}

// The last number that may be is followed by none.
func TestJudgeOfTheLastNumber(t *testing.T) {
	table, _ := tableOf(t, []api.Prod{{Pid: 6, Seq: lastSeq - 1, Off: 3}})
	wantJudged(t, table, 6, lastSeq, api.VFresh, 0)
	want(t, "Note", table.Note(6, lastSeq, 4), api.OK)
	wantJudged(t, table, 6, lastSeq, api.VAgain, 4)
	wantJudged(t, table, 6, lastSeq-1, api.VStale, 0)
	wantJudged(t, table, 6, lastSeq+1, -1, 0)
	want(t, "Note", table.Note(6, lastSeq+1, 5), api.ErrPid)
	wantList(t, "List", table.List(), []api.Prod{{Pid: 6, Seq: lastSeq, Off: 4}})
}

// 9.4

func TestNoteOfTheExample(t *testing.T) {
	table, _ := tableOf(t, []api.Prod{{Pid: 1, Seq: 3, Off: 10}, {Pid: 7, Seq: 1, Off: 4}})
	noted := []api.Prod{{Pid: 1, Seq: 4, Off: 12}, {Pid: 7, Seq: 1, Off: 4}}
	want(t, "Note", table.Note(1, 4, 12), api.OK)
	wantList(t, "List", table.List(), noted)
	want(t, "Note of the same one", table.Note(1, 4, 99), api.OK)
	want(t, "Note of a gap", table.Note(1, 6, 13), api.ErrSeq)
	want(t, "Note of a wrong offset", table.Note(2, 1, -1), api.ErrArg)
	wantList(t, "List", table.List(), noted)
}

// Each verdict with each offset: what Refuse tells comes ahead of the offset, and of a refused one nothing stays.
func TestNoteOfEachVerdict(t *testing.T) {
	noted := map[int]int{}
	for _, ps := range [][]api.Prod{{{Pid: 10, Seq: 3, Off: 8}, {Pid: 22, Seq: 1, Off: 9}}, many(64)} {
		for _, pid := range []int64{-1, 0, 1, 10, 16, 22, lastPid, lastPid + 1} {
			for _, seq := range []int64{-1, 0, 1, 2, 3, 4, 5, lastSeq, lastSeq + 1} {
				for _, off := range []int64{math.MinInt64, -1, 0, 1, 8, 500, lastOff - 1, lastOff, lastOff + 1, math.MaxInt64} {
					table, s := tableOf(t, ps)
					verdict, _ := table.Judge(pid, seq)
					e := table.Note(pid, seq, off)
					if wanted := s.note(pid, seq, off); e != wanted {
						t.Errorf("Note(%d, %d, %d) = %d, want %d", pid, seq, off, e, wanted)
					}
					wantList(t, "List behind a note", table.List(), s.told())
					if e == api.OK && verdict == api.VFresh {
						wantJudged(t, table, pid, seq, api.VAgain, off)
					}
					noted[verdict]++
				}
			}
		}
	}
	for verdict := -1; verdict <= api.VFull; verdict++ {
		if noted[verdict] == 0 {
			t.Errorf("the verdict %d never came", verdict)
		}
	}
}

func TestNoteErrorsInTheirOrder(t *testing.T) {
	table, s := tableOf(t, many(64))
	for _, c := range []struct {
		pid, seq, off int64
		errno         api.Errno
	}{
		{-1, 1, -1, api.ErrPid},
		{0, 1, -1, api.ErrPid},
		{13, 0, lastOff + 1, api.ErrPid},
		{13, 1, -1, api.ErrStale},
		{13, 4, -1, api.ErrSeq},
		{1, 2, -1, api.ErrSeq},
		{1, 1, -1, api.ErrProds},
		{13, 2, -1, api.ErrArg},
		{13, 2, lastOff + 1, api.ErrArg},
		{13, 3, -1, api.ErrArg},
		{13, 3, lastOff + 1, api.ErrArg},
		{0, 0, -1, api.ErrArg},
		{0, 0, lastOff + 1, api.ErrArg},
	} {
		if e := table.Note(c.pid, c.seq, c.off); e != c.errno {
			t.Errorf("Note(%d, %d, %d) = %d, want %d", c.pid, c.seq, c.off, e, c.errno)
		}
	}
	wantAlike(t, "the table behind all that was refused", table, s)
	for _, off := range []int64{0, 5, lastOff} {
		want(t, "Note of none", table.Note(0, 0, off), api.OK)
		want(t, "Note of a last number", table.Note(13, 2, off), api.OK)
	}
	wantAlike(t, "the table behind what changes nothing", table, s)
}

// Offsets may fall: the table keeps the one that was noted last.
func TestNotedOffsetsInAnyOrder(t *testing.T) {
	table, _ := tableOf(t, nil)
	for i, off := range []int64{500, 3, lastOff, 0, 3} {
		want(t, "Note", table.Note(4, int64(i+1), off), api.OK)
		wantJudged(t, table, 4, int64(i+1), api.VAgain, off)
		wantList(t, "List", table.List(), []api.Prod{{Pid: 4, Seq: int64(i + 1), Off: off}})
	}
}

// Long rows of notes, with more producers than there is room for, against the slow table.
func TestNotesAgainstTheSlowTable(t *testing.T) {
	for seed := range uint64(20) {
		table, s := tableOf(t, nil)
		told := map[int]int{}
		for _, x := range probe.Noise(seed+1, 3000) {
			pid, seq, off := int64(x%68), int64(x>>10%5), int64(x>>20%1000)-10
			if i := s.place(pid); i >= 0 {
				seq += s.list[i].Seq - 1
			}
			verdict, at := s.judge(pid, seq)
			wantJudged(t, table, pid, seq, verdict, at)
			want(t, "Note", table.Note(pid, seq, off), s.note(pid, seq, off))
			told[verdict]++
		}
		wantAlike(t, "behind many notes", table, s)
		for verdict := -1; verdict <= api.VFull; verdict++ {
			if told[verdict] == 0 {
				t.Errorf("the verdict %d never came", verdict)
			}
		}
	}
}
