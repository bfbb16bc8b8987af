package topic_test

import (
	"fmt"
	"math"
	"slices"
	"strings"
	"testing"

	"chronicle/api"
	"chronicle/probe"
	"chronicle/record"
)

// 10.5
func TestGet(t *testing.T) {
	d, p := made(t)
	long := strings.Repeat("k", 64)
	lay(t, p, put(0, "a", "1"), put(1, "b", "2"), put(2, "a", "3"), gone(3, "b"), put(4, long, "4"), gone(5, "c"), put(6, "c", "5"))
	commit(t, p)
	lay(t, p, put(7, "d", "6"), gone(8, "a"))
	for range 3 {
		wantGet(t, "the last one", p, "a", put(2, "a", "3"))
		wantGet(t, "deleted", p, "b", api.Record{})
		wantGet(t, "a long key", p, long, put(4, long, "4"))
		wantGet(t, "deleted ahead of it", p, "c", put(6, "c", "5"))
		wantGet(t, "pending", p, "d", api.Record{})
		wantGet(t, "never there", p, "x", api.Record{})
		wantGet(t, "the first part of a key", p, long[:63], api.Record{})
		for _, key := range []string{"", long + "k", strings.Repeat("k", 1000)} {
			r, ok, e := p.Get(key)
			want(t, fmt.Sprintf("Get(%.10q..)", key), fmt.Sprint(r, ok, e), fmt.Sprint(api.Record{}, false, api.ErrKey))
		}
	}
	roll(t, p)
	wantGet(t, "rolled: pending", p, "d", put(7, "d", "6"))
	wantGet(t, "rolled: deleted", p, "a", api.Record{})
	wantGet(t, "rolled: another", p, "c", put(6, "c", "5"))
	p = opened(t, d)
	wantGet(t, "opened anew", p, "c", put(6, "c", "5"))
	wantGet(t, "opened anew: deleted", p, "a", api.Record{})
}

func TestKeys(t *testing.T) {
	_, p := made(t)
	keys := []string{"\x00", "a", "a\x00", "ab", "b", "c", "\xff", "\xff\xff"}
	for i := range keys {
		lay(t, p, put(int64(i), keys[len(keys)-1-i], "v"))
	}
	commit(t, p)
	for range 2 {
		for most := 1; most < 12; most++ {
			wantKeys(t, "all", p, "", "", most, most < 8, keys[:min(most, 8)]...)
			wantKeys(t, "from b on", p, "b", "", most, most < 4, keys[4:min(4+most, 8)]...)
			wantKeys(t, "below b", p, "", "b", most, most < 4, keys[:min(most, 4)]...)
			wantKeys(t, "between", p, "a", "b", most, most < 3, keys[1:min(1+most, 4)]...)
			wantKeys(t, "none between", p, "b", "b", most, false)
			wantKeys(t, "none in this order", p, "b", "a", most, false)
			wantKeys(t, "none behind", p, "\xff\xff\x00", "", most, false)
			wantKeys(t, "long ends", p, strings.Repeat("a", 99), strings.Repeat("b", 99), most, most < 2, keys[3:min(3+most, 5)]...)
		}
		for _, most := range []int{0, -1, math.MinInt} {
			wantKeys(t, "none wanted", p, "", "", most, false)
		}
		wantKeys(t, "many wanted", p, "", "", math.MaxInt, false, keys...)
		roll(t, p)
	}
	// What is deleted is not told, and does not count; nor does what is pending.
	lay(t, p, gone(8, "c"), gone(9, "\xff\xff"))
	wantKeys(t, "pending", p, "", "", 8, false, keys...)
	commit(t, p)
	lay(t, p, put(10, "d", ""))
	wantKeys(t, "deleted", p, "", "", 6, false, "\x00", "a", "a\x00", "ab", "b", "\xff")
	wantKeys(t, "deleted", p, "", "", 5, true, "\x00", "a", "a\x00", "ab", "b")
	wantKeys(t, "deleted", p, "b", "", 2, false, "b", "\xff")
	wantKeys(t, "deleted", p, "c", "", 1, false, "\xff")
}

func TestFrom(t *testing.T) {
	_, p := made(t)
	list := []api.Record{sized(0, 20), sized(1, 30), sized(2, 15), sized(3, 100), sized(4, 25), sized(5, 15)}
	for i, r := range list {
		lay(t, p, r)
		if i == 2 {
			roll(t, p)
		}
	}
	commit(t, p)
	lay(t, p, sized(6, 15))
	for offset := range int64(6) {
		for most := 1; most <= 7; most++ {
			for size := 1; size < 220; size++ {
				n := 1
				for int(offset)+n < 6 && n < most && sizes(list[offset:int(offset)+n+1]) <= size {
					n++
				}
				next := offset + int64(n)
				wantFrom(t, "from", p, offset, most, size, list[offset:next], next, api.OK)
			}
		}
	}
	wantFrom(t, "all", p, 0, math.MaxInt, math.MaxInt, list, 6, api.OK)
	wantFrom(t, "the end", p, 6, 1, 1, nil, 6, api.OK)
	for _, offset := range []int64{math.MinInt64, -1, 7, 8, 1 << 40, math.MaxInt64} {
		wantFrom(t, "no position", p, offset, 1, 1, nil, 0, api.ErrPos)
		wantFrom(t, "no position, no number", p, offset, 0, 1, nil, 0, api.ErrArg)
		wantFrom(t, "no position, no bytes", p, offset, 1, 0, nil, 0, api.ErrArg)
	}
	for _, n := range []int{0, -1, math.MinInt} {
		wantFrom(t, "none wanted", p, 0, n, 1, nil, 0, api.ErrArg)
		wantFrom(t, "no bytes wanted", p, 0, 1, n, nil, 0, api.ErrArg)
	}
}

// Where merges have left gaps, the position is behind the last one that is told, or the end.
func TestFromOverGaps(t *testing.T) {
	f := stored(api.Manifest{Id: 3, Next: 20, Mark: 4},
		shelf{4, 2, []api.Record{put(3, "a", ""), put(6, "b", "")}, true}, shelf{6, 7, nil, true}, shelf{5, 7, []api.Record{put(10, "c", "")}, true}, shelf{number: 7, base: 20})
	p := opened(t, holding(t, f))
	a, b, c := put(3, "a", ""), put(6, "b", ""), put(10, "c", "")
	for offset := range int64(21) {
		var rest []api.Record
		for _, r := range []api.Record{a, b, c} {
			if r.Offset >= offset {
				rest = append(rest, r)
			}
		}
		wantFrom(t, "all", p, offset, 9, 999, rest, 20, api.OK)
		for n := 1; n < len(rest); n++ {
			wantFrom(t, "some", p, offset, n, 999, rest[:n], rest[n-1].Offset+1, api.OK)
			wantFrom(t, "some", p, offset, 9, n*14+13, rest[:n], rest[n-1].Offset+1, api.OK)
		}
		if len(rest) > 0 {
			wantFrom(t, "just all", p, offset, len(rest), 999, rest, 20, api.OK)
		}
	}
	wantFrom(t, "above the end", p, 21, 9, 999, nil, 0, api.ErrPos)
}

// A reader that goes on where it is told to is given all, whatever the pieces.
func TestReadingOn(t *testing.T) {
	_, p := made(t)
	var list []api.Record
	for i, x := range probe.Noise(4, 60) {
		r := sized(int64(i), 15+int(x>>20%90))
		list = append(list, r)
		lay(t, p, r)
	}
	commit(t, p)
	for _, most := range []int{1, 2, 7, 100} {
		for _, size := range []int{1, 50, 300, 100000} {
			var got []api.Record
			pieces := 0
			for at := int64(0); at < 60; pieces++ {
				piece, next, e := p.From(at, most, size)
				if e != api.OK || next <= at {
					t.Fatalf("From(%d, %d, %d): %d, %d", at, most, size, next, e)
				}
				got, at = append(got, piece...), next
			}
			wantList(t, "all", got, list)
			if most == 1 || size == 1 {
				want(t, "pieces", pieces, 60)
			}
		}
	}
	wantRecords(t, "all", p, list...)
}

// 10.5: State's numbers, and Stats'.
func TestDeadAndAlive(t *testing.T) {
	_, p := madeWith(t, 256, 10)
	list := []api.Record{put(0, "a", "1"), put(1, "b", "2"), gone(2, "c"), at(9, gone(3, "a")), at(9, put(4, "d", "4"))}
	lay(t, p, list...)
	commit(t, p)
	check := func(now int64, live, dead int) {
		t.Helper()
		want(t, "Tick", p.Tick(now), now)
		s := p.State()
		want(t, fmt.Sprint("Live at ", now), s.Live, live)
		want(t, fmt.Sprint("Dead at ", now), s.Dead, dead)
	}
	check(9, 2, 1)  // a=1 is superseded
	check(16, 2, 1) // the tombstone of c is young still
	check(17, 2, 2)
	roll(t, p)
	check(18, 2, 2)
	size := func(n ...int) int {
		sum := 0
		for _, i := range n {
			sum += record.Size(list[i])
		}
		return sum
	}
	wantList(t, "Stats", p.Stats(), []api.SegStat{{Number: 1, Count: 5, Live: 3, Bytes: size(0, 1, 2, 3, 4), LiveBytes: size(1, 3, 4)}})
	check(19, 2, 3)
	wantList(t, "Stats", p.Stats(), []api.SegStat{{Number: 1, Count: 5, Live: 2, Bytes: size(0, 1, 2, 3, 4), LiveBytes: size(1, 4)}})
	lay(t, p, at(19, put(5, "b", "5")))
	wantList(t, "Stats with one pending", p.Stats(), []api.SegStat{{Number: 1, Count: 5, Live: 2, Bytes: size(0, 1, 2, 3, 4), LiveBytes: size(1, 4)}})
	commit(t, p)
	wantList(t, "Stats", p.Stats(), []api.SegStat{{Number: 1, Count: 5, Live: 1, Bytes: size(0, 1, 2, 3, 4), LiveBytes: size(4)}})
	check(19, 2, 4)
	lay(t, p, at(19, gone(6, "d")))
	roll(t, p)
	check(28, 1, 5) // b=5 and the tombstone of d are kept
	check(29, 1, 6)
	check(lastTime, 1, 6)
}

// With the horizon 0 a tombstone is old at once.
func TestWithoutAHorizon(t *testing.T) {
	_, p := madeWith(t, 256, 0)
	lay(t, p, gone(0, "a"), put(1, "b", ""))
	commit(t, p)
	want(t, "Dead", p.State().Dead, 1)
	want(t, "Live", p.State().Live, 1)
	want(t, "Needed at its time", p.Needed(7, gone(0, "a")), false)
	want(t, "Needed ahead of it", p.Needed(6, gone(0, "a")), true)
}

// What is read without power is answered by ErrDead; what need not be read is answered.
func TestReadingWithoutPower(t *testing.T) {
	d, p := made(t)
	lay(t, p, put(0, "a", "1"), gone(1, "b"))
	roll(t, p)
	lay(t, p, put(2, "c", "2"))
	commit(t, p)
	lay(t, p, put(3, "d", "3"))
	before, stats := p.State(), p.Stats()
	unpower(t, d)
	want(t, "State", p.State(), before)
	wantList(t, "Stats", p.Stats(), stats)
	wantList(t, "Sealed", p.Sealed(), []int{1})
	wantKeys(t, "Keys", p, "", "", 9, false, "a", "c")
	for _, key := range []string{"a", "c"} {
		r, ok, e := p.Get(key)
		want(t, "Get", fmt.Sprint(r, ok, e), fmt.Sprint(api.Record{}, false, api.ErrDead))
	}
	wantGet(t, "deleted", p, "b", api.Record{})
	wantGet(t, "pending", p, "d", api.Record{})
	wantGet(t, "never there", p, "x", api.Record{})
	_, _, e := p.Get("")
	want(t, "Get of no key", e, api.ErrKey)
	list, e := p.Records()
	want(t, "Records", fmt.Sprint(len(list), e), fmt.Sprint(0, api.ErrDead))
	for offset := range int64(3) {
		wantFrom(t, "From", p, offset, 9, 999, nil, 0, api.ErrDead)
	}
	wantFrom(t, "the end", p, 3, 9, 999, nil, 3, api.OK)
	wantFrom(t, "above the end", p, 4, 9, 999, nil, 0, api.ErrPos)
	wantFrom(t, "none wanted", p, 0, 0, 999, nil, 0, api.ErrArg)
	wantTake(t, "Take", p, 1, 0, api.Record{}, 0, api.ErrDead)
	wantTake(t, "Take of no place", p, 1, 1, api.Record{}, 0, api.ErrPlace)
	wantTake(t, "Take of the last segment", p, 2, 0, api.Record{}, 0, api.ErrPlace)
	want(t, "Needed", p.Needed(7, put(0, "a", "1")), true)
	want(t, "Hold", p.Hold(), api.OK)
	want(t, "Hold", p.Hold(), api.ErrMerging)
	p.Release()
	n, e := p.NewSeg()
	want(t, "NewSeg", fmt.Sprint(n, e), "3 0")
	want(t, "Commit", p.Commit(), api.ErrDead)
	want(t, "Roll", p.Roll(), api.ErrDead)
	want(t, "State", p.State(), before)

	d, p = made(t)
	unpower(t, d)
	wantRecords(t, "of no records", p)
	wantFrom(t, "of no records", p, 0, 1, 1, nil, 0, api.OK)
	want(t, "Roll of nothing", p.Roll(), api.OK)
}

// Somebody else's changes lead to no panic.
func TestForeignHands(t *testing.T) {
	for what, change := range map[string]func(f files) files{
		"nothing there":     func(f files) files { return nil },
		"shorter":           func(f files) files { return f.with("t3.1.seg", f["t3.1.seg"][:30]).with("t3.2.seg", "") },
		"other bytes":       func(f files) files { return f.turned("t3.1.seg", 25).turned("t3.2.seg", 30) },
		"another's records": func(f files) files { return f.with("t3.1.seg", f["t3.2.seg"]) },
	} {
		d, p := made(t)
		lay(t, p, put(0, "a", "1"), put(1, "b", "2"))
		roll(t, p)
		lay(t, p, put(2, "c", "3"))
		commit(t, p)
		lay(t, p, put(3, "d", "4"))
		for _, name := range namesOf(d.Image()) {
			d.Remove(name)
		}
		for name, b := range change(stored(api.Manifest{Id: 3}, shelf{1, 0, []api.Record{put(0, "a", "1"), put(1, "b", "2")}, true}, shelf{2, 2, []api.Record{put(2, "c", "3"), put(3, "d", "4")}, false})) {
			d.Create(name)
			d.Append(name, []byte(b))
		}
		for range 2 {
			for _, key := range []string{"a", "b", "c", "d"} {
				p.Get(key)
			}
			if recs, e := p.Records(); e != api.OK && len(recs) > 0 {
				t.Errorf("%s: Records = %d records, %d", what, len(recs), e)
			}
			p.From(1, 2, 99)
			p.Take(1, 0)
			p.Take(1, 36)
			n, _ := p.NewSeg()
			p.Install([]int{1}, []int{n}, 0)
			p.Append(7, api.Write{Key: "e"})
			p.Commit()
			p.Roll()
			p.State()
			p.Stats()
		}
		p.Drop()
		if names := namesOf(d.Image()); slices.ContainsFunc(names, func(s string) bool { return strings.HasPrefix(s, "t3.") }) {
			t.Errorf("%s: dropped: %q", what, names)
		}
	}
}
