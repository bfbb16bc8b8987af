package fsck_test

import (
	"fmt"
	"slices"
	"strings"
	"testing"

	"chronicle/api"
	"chronicle/fsck"
	"chronicle/simfs"
)

// wantKept fails unless Salvage tells just this of some files.
func wantKept(t *testing.T, what string, f files, list ...api.Saved) {
	t.Helper()
	wantSaved(t, what, salvaged(t, what, holding(t, f)), list)
}

// keeps is what Salvage tells of the topic 3 of three, if it has these records.
func keeps(recs ...api.Record) api.Saved { return api.Saved{Name: "a", Id: 3, Records: recs} }

// named is three with a catalogue.
func named() files { return three().with("catalog", catalogue(4, entry(3, "a"))) }

// 21.2
func TestSalvageRefused(t *testing.T) {
	list, e := fsck.Salvage(nil)
	want(t, "nil", fmt.Sprint(list, e), fmt.Sprint([]api.Saved(nil), api.ErrNil))
	for what, f := range map[string]files{"empty": nil, "whole": whole(), "with others": others()} {
		list, e = fsck.Salvage(unpowered(t, f))
		want(t, what+", without power", fmt.Sprint(list, e), fmt.Sprint([]api.Saved(nil), api.ErrDead))
	}
}

func TestSalvageOfWhatIsWhole(t *testing.T) {
	wantKept(t, "whole", whole(), savedOfWhole()...)
	wantKept(t, "whole, beside others", whole().and(others()), savedOfWhole()...)
	wantKept(t, "an empty disk", nil)
	wantKept(t, "formatted alone", files{"catalog": catalogue(1)})
	wantKept(t, "others", others())
	wantSaved(t, "a zero disk", salvaged(t, "a zero disk", &simfs.Disk{}), nil)
}

// A number is told of which there is a segment's file, and no other.
func TestSalvagedNumbers(t *testing.T) {
	f := files{"catalog": catalogue(9, entry(7, "x"), entry(8, "y"))}
	for _, name := range []string{"t7.man", "t7.1.hint", "t7.1.seg.tmp", "t7.man.tmp", "t0.man", "t0.1.hint"} {
		wantKept(t, name, f.with(name, open(1, recsOfB()...).bytes(7)))
	}
	wantKept(t, "an empty file", f.with("t7.1.seg", ""), api.Saved{Name: "x", Id: 7})
	wantKept(t, "of no topic", f.with("t9.1.seg", ""), api.Saved{Id: 9})
	wantKept(t, "the greatest", f.with("t1073741823.1073741823.seg", open(lastId, put(lastOffset, "k", "v")).bytes(lastId)), api.Saved{Id: lastId, Records: []api.Record{put(lastOffset, "k", "v")}})
	wantKept(t, "rising", f.with("t10.1.seg", "").with("t8.1.seg", "").with("t7.2.seg", "").with("t0.1.seg", "").with("t9.1.seg", ""),
		api.Saved{Id: 0}, api.Saved{Name: "x", Id: 7}, api.Saved{Name: "y", Id: 8}, api.Saved{Id: 9}, api.Saved{Id: 10})
}

// Without a catalogue there are no names, without a manifest there is another order: the records are the same.
func TestSalvageWithoutWhatLeadsThere(t *testing.T) {
	nameless := savedOfWhole()
	for i := range nameless {
		nameless[i].Name = ""
	}
	for what, f := range damages(whole(), "catalog") {
		wantKept(t, "the catalogue is "+what, f, nameless...)
	}
	for what, f := range damages(whole(), "t3.man") {
		wantKept(t, "the manifest is "+what, f, savedOfWhole()...)
	}
	wantKept(t, "of another number", whole().with("t3.man", whole()["t1.man"]), savedOfWhole()...)
	none := whole().without("catalog", "t0.man", "t1.man", "t3.man", "t4.man", "t3.5.hint", "t3.2.hint", "t1.1.hint")
	wantKept(t, "segments alone", none, nameless...)
	wantKept(t, "a number that the catalogue does not have", whole().with("catalog", catalogue(4, entry(1, "b"))),
		nameless[0], savedOfWhole()[1], nameless[2], nameless[3])
}

// Of files that no manifest names the records are saved as well; what has the manifest's word comes first.
func TestWhoseRecordCounts(t *testing.T) {
	a, b, c := put(5, "k", "named"), put(5, "k", "lower"), put(5, "k", "higher")
	man := func(segs ...int) string { return manOf(api.Manifest{Id: 3, NextSeg: 99, Segs: segs}) }
	f := files{"catalog": catalogue(4, entry(3, "a"))}
	f = f.with("t3.50.seg", open(50, a).bytes(3)).with("t3.9.seg", open(9, b).bytes(3)).with("t3.12.seg", open(12, c).bytes(3))
	wantKept(t, "no manifest", f, keeps(b))
	wantKept(t, "all are named", f.with("t3.man", man(50, 12, 9)), keeps(a))
	wantKept(t, "all are named, in another order", f.with("t3.man", man(12, 9, 50)), keeps(c))
	wantKept(t, "one is named", f.with("t3.man", man(50)), keeps(a))
	wantKept(t, "the last one is named", f.with("t3.man", man(12)), keeps(c))
	wantKept(t, "one is named that is not there", f.with("t3.man", man(77, 50)), keeps(a))
	wantKept(t, "none of these is named", f.with("t3.man", man(77)), keeps(b))
	// The same content twice is told once, and what only the others have is told too.
	twice := named().with("t3.99.seg", shut(99, first().recs[0], put(3, "x", "left out"), third().recs[2], put(12, "y", "")).bytes(3))
	all := slices.Concat(first().recs, second().recs[:1], []api.Record{put(3, "x", "left out")}, second().recs[1:], third().recs, []api.Record{put(12, "y", "")})
	wantKept(t, "with an orphan", twice, keeps(all...))
}

// A right part counts ahead of whatever is found elsewhere, in whatever file.
func TestRightPartsComeFirst(t *testing.T) {
	a, b, c := put(5, "k", "right"), put(5, "k", "behind"), put(5, "k", "headless")
	low := put(2, "k", "low")
	man := func(segs ...int) string { return manOf(api.Manifest{Id: 3, NextSeg: 99, Segs: segs}) }
	right := open(12, a).bytes(3)
	behind := open(10, low).bytes(3) + "x" + bytesOf(b)
	headless := "x" + open(11, c).bytes(3)
	f := files{"catalog": catalogue(4, entry(3, "a")), "t3.12.seg": right, "t3.10.seg": behind, "t3.11.seg": headless}
	for _, segs := range [][]int{{10, 11, 12}, {11, 10, 12}, {10, 11}, {11}, {77}} {
		wantKept(t, fmt.Sprint("the manifest names ", segs), f.with("t3.man", man(segs...)), keeps(low, a))
	}
	// Without it the files' order counts, whatever is found where.
	g := f.without("t3.12.seg")
	wantKept(t, "by their numbers", g, keeps(low, b))
	wantKept(t, "by the manifest", g.with("t3.man", man(11, 10)), keeps(low, c))
	wantKept(t, "by the manifest and their numbers", g.with("t3.man", man(11)), keeps(low, c))
	wantKept(t, "by the manifest, the other way about", g.with("t3.man", man(10)), keeps(low, b))
	wantKept(t, "of one file the first", files{"t3.1.seg": bytesOf(b) + bytesOf(c) + bytesOf(low)}, api.Saved{Id: 3, Records: []api.Record{low, b}})
}

// Damage takes no record but the one that it hits.
func TestSalvageOfDamagedSegments(t *testing.T) {
	f := named()
	for _, s := range []shelf{first(), second(), third()} {
		name := segName(3, s.number)
		for n := range len(f[name]) {
			rest := slices.DeleteFunc(recsOfThree(), func(r api.Record) bool {
				i := slices.Index(s.recs, r)
				return i >= 0 && n >= 21+sizes(s.recs[:i]) && n < 21+sizes(s.recs[:i+1])
			})
			wantKept(t, fmt.Sprint(name, " changed at ", n), f.turned(name, n), keeps(rest...))
			short := slices.DeleteFunc(recsOfThree(), func(r api.Record) bool {
				i := slices.Index(s.recs, r)
				return i >= 0 && n < 21+sizes(s.recs[:i+1])
			})
			wantKept(t, fmt.Sprint(name, " with the first ", n), f.with(name, f[name][:n]), keeps(short...))
		}
		rest := slices.DeleteFunc(recsOfThree(), func(r api.Record) bool { return slices.Contains(s.recs, r) })
		wantKept(t, name+" missing", f.without(name), keeps(rest...))
		for what, g := range headless(f, 3, s) {
			if strings.HasSuffix(g[name], f[name][21:]) {
				wantKept(t, name+" "+what, g, keeps(recsOfThree()...))
			}
		}
	}
}

// Of a file of another topic or another number all that is whole is told, by whatever number its name says.
func TestSalvageOfMovedSegments(t *testing.T) {
	wantKept(t, "another topic's", files{"t9.1.seg": first().bytes(3)}, api.Saved{Id: 9, Records: first().recs})
	wantKept(t, "another number's", files{"t3.1.seg": first().bytes(3)}, api.Saved{Id: 3, Records: first().recs})
	// Offsets need not rise there.
	b := bytesOf(put(8, "a", "")) + "\x00\x00" + bytesOf(put(2, "b", "")) + bytesOf(put(4, "c", ""))
	recs := []api.Record{put(2, "b", ""), put(4, "c", ""), put(8, "a", "")}
	wantKept(t, "no head at all", files{"t3.1.seg": b}, api.Saved{Id: 3, Records: recs})
	wantKept(t, "behind a head", files{"t3.1.seg": open(1).bytes(3) + "?" + b}, api.Saved{Id: 3, Records: recs})
	wantKept(t, "behind a tail", files{"t3.1.seg": shut(1).bytes(3) + b}, api.Saved{Id: 3, Records: recs})
	falling := open(1, put(5, "z", "")).bytes(3) + bytesOf(put(4, "c", "")) + bytesOf(put(6, "d", ""))
	wantKept(t, "falling", files{"t3.1.seg": falling}, api.Saved{Id: 3, Records: []api.Record{put(4, "c", ""), put(5, "z", ""), put(6, "d", "")}})
}

// A value that holds a record's bytes is told as one only where what stood ahead of it is damaged.
func TestValuesThatLookLikeRecords(t *testing.T) {
	inner := put(77, "inner", "v")
	outer := put(1, "outer", "--"+bytesOf(inner)+"--")
	f := one(api.Manifest{}, shut(1, put(0, "a", ""), outer, put(2, "b", "")), open(2, put(3, "c", "")))
	wantKept(t, "whole", f, keeps(put(0, "a", ""), outer, put(2, "b", ""), put(3, "c", "")))
	place := 21 + len(bytesOf(put(0, "a", "")))
	wantKept(t, "its mark is damaged", f.turned("t3.1.seg", place), keeps(put(0, "a", ""), put(2, "b", ""), put(3, "c", ""), inner))
	// It may stand under a right one's offset: that one counts.
	inner.Offset = 3
	outer.Value = "--" + bytesOf(inner) + "--"
	f = one(api.Manifest{}, shut(1, put(0, "a", ""), outer, put(2, "b", "")), open(2, put(3, "c", "")))
	wantKept(t, "under a right one's offset", f.turned("t3.1.seg", place), keeps(put(0, "a", ""), put(2, "b", ""), put(3, "c", "")))
}
