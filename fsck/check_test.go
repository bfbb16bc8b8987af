package fsck_test

import (
	"fmt"
	"testing"

	"chronicle/api"
	"chronicle/fsck"
	"chronicle/simfs"
)

// 21.1
func TestCheckRefused(t *testing.T) {
	list, e := fsck.Check(nil)
	want(t, "nil", fmt.Sprint(list, e), fmt.Sprint([]api.Finding(nil), api.ErrNil))
	for what, f := range map[string]files{"empty": nil, "whole": whole(), "with others": others()} {
		list, e = fsck.Check(unpowered(t, f))
		want(t, what+", without power", fmt.Sprint(list, e), fmt.Sprint([]api.Finding(nil), api.ErrDead))
	}
}

func TestNothingIsWrong(t *testing.T) {
	wantFound(t, "whole", whole())
	wantFound(t, "formatted alone", files{"catalog": catalogue(1)})
	wantFound(t, "a store whose topics are gone", files{"catalog": catalogue(1 << 30)})
	wantFound(t, "without hints", whole().without("t3.5.hint", "t3.2.hint", "t1.1.hint"))
	zero := &simfs.Disk{}
	wantList(t, "a zero disk", checked(t, "a zero disk", zero), []api.Finding{found(api.FkCatalogue, "catalog")})
}

// damages is some files, one of which can't be read, for whatever reason.
func damages(f files, name string) map[string]files {
	all := map[string]files{
		"missing":      f.without(name),
		"empty":        f.with(name, ""),
		"longer":       f.with(name, f[name]+"\x00"),
		"another one":  f.with(name, f["t3.5.hint"]),
		"beside":       f.without(name).with(name+".tmp", f[name]),
		"beside, also": f.with(name, "").with(name+".tmp", f[name]),
	}
	for n := 1; n < len(f[name]); n++ {
		all[fmt.Sprint("cut off by ", n)] = f.cut(name, n)
	}
	for at := range len(f[name]) {
		all[fmt.Sprint("changed at ", at)] = f.turned(name, at)
	}
	return all
}

// Without a catalogue only the number 0 is known, and nobody is a stranger.
func TestTheCatalogue(t *testing.T) {
	wantFound(t, "an empty disk", nil, found(api.FkCatalogue, "catalog"))
	for what, f := range damages(whole(), "catalog") {
		wantFound(t, what, f, found(api.FkCatalogue, "catalog"))
		f = f.with("t9.1.seg", "").with("t3.man", "").with("t1.77.seg", "").with("t0.77.seg", "").with("x", "")
		wantFound(t, what+", and more", f, found(api.FkCatalogue, "catalog"), found(api.FkOrphan, "t0.77.seg"), found(api.FkOther, "x"))
	}
}

// Without a manifest nothing more of its number is looked at; what else is wrong is told.
func TestManifests(t *testing.T) {
	for _, name := range []string{"t0.man", "t1.man", "t3.man", "t4.man"} {
		for what, f := range damages(whole(), name) {
			wantFound(t, name+" is "+what, f, found(api.FkManifest, name))
		}
	}
	other := whole().with("t1.man", whole()["t3.man"])
	wantFound(t, "of another number", other, found(api.FkManifest, "t1.man"))
	all := whole().without("t0.man", "t1.man", "t3.man", "t4.man").with("t1.1.seg", "").with("t3.99.seg", "").with("t3.2.seg.tmp", "").with("t4.1.hint", "")
	wantFound(t, "none at all", all, found(api.FkManifest, "t0.man"), found(api.FkManifest, "t1.man"), found(api.FkManifest, "t3.man"), found(api.FkManifest, "t4.man"))
}

// The number 0 is known by any file of its own.
func TestTheNumberZero(t *testing.T) {
	f := whole().without("t0.man", "t0.1.seg")
	wantFound(t, "no file", f)
	for _, name := range []string{"t0.1.seg", "t0.9.hint", "t0.man.tmp", "t0.3.seg.tmp", "t0.1.hint.tmp", "t0.1073741823.seg"} {
		wantFound(t, name, f.with(name, ""), found(api.FkManifest, "t0.man"))
	}
	wantFound(t, "the manifest", f.with("t0.man", whole()["t0.man"]), found(api.FkSegment, "t0.1.seg"))
	wantFound(t, "a manifest that is none", f.with("t0.man", ""), found(api.FkManifest, "t0.man"))
	wantFound(t, "another catalogue", f.with("catalog.tmp", ""), found(api.FkStranger, "catalog.tmp"))
	for name := range others() {
		wantFound(t, name, f.with(name, ""), found(api.FkOther, name))
	}
	wantFound(t, "a tmp beside", whole().with("t0.man.tmp", ""), found(api.FkOrphan, "t0.man.tmp"))
}

// headless is a segment's file in all ways in which it has no right head of its own.
func headless(f files, topic int, s shelf) map[string]files {
	name := segName(topic, s.number)
	other := s
	other.number++
	all := map[string]files{
		"missing":           f.without(name),
		"of another topic":  f.with(name, s.bytes(topic+1)),
		"of another number": f.with(name, other.bytes(topic)),
		"of the number 0":   f.with(name, shelf{base: s.base, recs: s.recs, sealed: true}.bytes(0)),
		"another file":      f.with(name, f["catalog"]),
	}
	for n := range 21 {
		all[fmt.Sprint("of ", n, " bytes")] = f.with(name, f[name][:n])
		all[fmt.Sprint("changed at ", n)] = f.turned(name, n)
	}
	return all
}

// Of a segment without a head nothing more is looked at: not its hint, and not its order.
func TestSegmentsWithoutHeads(t *testing.T) {
	for _, s := range []shelf{first(), second(), third()} {
		name := segName(3, s.number)
		for what, f := range headless(whole(), 3, s) {
			wantFound(t, name+" is "+what, f, found(api.FkSegment, name))
			if s.sealed {
				wantFound(t, name+" is "+what+", and its hint is torn", f.with(hintName(3, s.number), ""), found(api.FkSegment, name))
			}
		}
	}
	// The first one's offsets count for nothing then: what stands behind it may be lower.
	f := stored(manOfThree(), shut(5, put(3, "a", "1")), shut(2, put(1, "b", "2")), open(7)).with("catalog", catalogue(4, entry(3, "a")))
	wantFound(t, "falling", f, foundAt(api.FkOrder, "t3.2.seg", 21))
	wantFound(t, "falling, but for a head", f.turned("t3.5.seg", 3), found(api.FkSegment, "t3.5.seg"))
}

// one is a store with one topic, the number 3.
func one(m api.Manifest, shelves ...shelf) files {
	m.Id = 3
	return stored(m, shelves...).with("catalog", catalogue(4, entry(3, "a")))
}

// What Look tells of the right part counts, and the place is told at which it ends.
func TestTornSegments(t *testing.T) {
	s := second()
	name, h := "t3.2.seg", "t3.2.hint"
	a := 21 + len(bytesOf(s.recs[0]))
	b := s.size()
	for _, c := range []struct {
		what string
		n    int // bytes that are left
		at   int
	}{
		{"in its tail", b + 16, b}, {"at its tail's beginning", b + 1, b},
		{"in its second record", b - 1, a}, {"in its second record's head", a + 1, a}, {"in its first record", a - 1, 21}, {"behind its head", 22, 21},
	} {
		f := whole().with(name, s.bytes(3)[:c.n])
		wantFound(t, c.what, f, foundAt(api.FkTorn, name, c.at), found(api.FkOpen, name), found(api.FkHint, h))
		wantFound(t, c.what+", without a hint", f.without(h), foundAt(api.FkTorn, name, c.at), found(api.FkOpen, name))
	}
	for what, n := range map[string]int{"without its tail": b, "without its tail and a record": a, "a head alone": 21} {
		wantFound(t, what, whole().with(name, s.bytes(3)[:n]), found(api.FkOpen, name), found(api.FkHint, h))
	}
	wantFound(t, "with more behind its tail", whole().with(name, s.bytes(3)+"x"), foundAt(api.FkTorn, name, b+17))
	low := s.bytes(3)[:b] + bytesOf(put(4, "c", "5")) // a whole record, whose offset does not rise
	wantFound(t, "with an offset twice", whole().with(name, low), foundAt(api.FkTorn, name, b), found(api.FkOpen, name), found(api.FkHint, h))
}

// The last one may be sealed or not; only that it is torn is told of it.
func TestTheLastSegment(t *testing.T) {
	s := third()
	name := "t3.7.seg"
	n := s.size()
	wantFound(t, "sealed", whole().with(name, shut(7, s.recs...).bytes(3)))
	wantFound(t, "sealed, and more", whole().with(name, shut(7, s.recs...).bytes(3)+"x"), foundAt(api.FkTorn, name, n+17))
	wantFound(t, "torn", whole().cut(name, 1), foundAt(api.FkTorn, name, n-len(bytesOf(s.recs[2]))))
	wantFound(t, "more behind", whole().with(name, s.bytes(3)+"\xa9"), foundAt(api.FkTorn, name, n))
	wantFound(t, "without records", whole().with(name, open(7).bytes(3)))
	wantFound(t, "torn behind its head", whole().with(name, open(7).bytes(3)+"\xae\x00"), foundAt(api.FkTorn, name, 21))
	// A hint of it does not belong there, be it as right as can be.
	f := whole().with(name, shut(7, s.recs...).bytes(3)).with("t3.7.hint", shut(7, s.recs...).hint())
	wantFound(t, "with a hint", f, found(api.FkOrphan, "t3.7.hint"))
	wantFound(t, "with a torn hint", f.with("t3.7.hint", "x"), found(api.FkOrphan, "t3.7.hint"))
}

func TestSegmentsThatAreNotSealed(t *testing.T) {
	f := one(api.Manifest{Next: 9}, open(5, first().recs...), open(2, second().recs...), open(7, third().recs...))
	wantFound(t, "none is", f, found(api.FkOpen, "t3.5.seg"), found(api.FkOpen, "t3.2.seg"))
	f = one(api.Manifest{}, open(5), open(2), open(7))
	wantFound(t, "and no records", f, found(api.FkOpen, "t3.5.seg"), found(api.FkOpen, "t3.2.seg"))
}

// Offsets rise from segment to segment, over all that are looked at.
func TestOrder(t *testing.T) {
	m := api.Manifest{Next: 20}
	order := func(seg int) api.Finding { return foundAt(api.FkOrder, segName(3, seg), 21) }
	a, b, c := put(4, "a", ""), put(5, "b", ""), put(6, "c", "")
	wantFound(t, "rising", one(m, shut(1, a), shut(2, b), open(3, c)))
	wantFound(t, "equal", one(m, shut(1, a), shut(2, a), open(3, c)), order(2))
	wantFound(t, "falling", one(m, shut(1, b), shut(2, a), open(3, c)), order(2))
	wantFound(t, "the last is equal", one(m, shut(1, a), shut(2, b), open(3, b)), order(3))
	wantFound(t, "the last falls", one(m, shut(1, b), shut(2, c), open(3, a)), order(3))
	wantFound(t, "falling twice", one(m, shut(1, c), shut(2, b), open(3, a)), order(2), order(3))
	// The greatest one counts, not that of the segment ahead.
	wantFound(t, "above the one ahead alone", one(m, shut(1, c), shut(2, a), open(3, b)), order(2), order(3))
	wantFound(t, "above all", one(m, shut(1, b), shut(2, a), open(3, c)), order(2))
	// Only the first record is asked, and the last one counts.
	wantFound(t, "two", one(m, shut(1, a, c), open(3, b, put(7, "d", ""))), order(3))
	// Segments without records have no offsets, whatever their base says.
	empty := shelf{number: 9, base: 1 << 40, sealed: true}
	wantFound(t, "an empty one", one(m, empty, shut(1, a), shut(2), open(3, b)))
	wantFound(t, "an empty one between", one(m, shut(1, a), empty, open(3, a)), order(3))
	wantFound(t, "an empty one first", one(m, shelf{number: 9, base: 5, sealed: true}, open(3, put(0, "a", ""))))
	wantFound(t, "an empty one last", one(m, shut(1, a), open(3)))
	// One that is not sealed, or torn, counts as far as it is right.
	wantFound(t, "an open one", one(m, open(1, c), open(3, b)), found(api.FkOpen, "t3.1.seg"), order(3))
	torn := one(m, shut(1, a, c), open(3, b))
	torn["t3.1.seg"] = open(1, a).bytes(3) + "x"
	wantFound(t, "a torn one", torn.without("t3.1.hint"), foundAt(api.FkTorn, "t3.1.seg", 21+len(bytesOf(a))), found(api.FkOpen, "t3.1.seg"))
}

// One topic's offsets have nothing to do with another's.
func TestOrderOfTopics(t *testing.T) {
	f := files{"catalog": catalogue(9, entry(2, "x"), entry(5, "y"))}
	f = f.and(stored(api.Manifest{Id: 2}, open(1, put(50, "a", "")))).and(stored(api.Manifest{Id: 5}, open(1, put(3, "a", ""))))
	wantFound(t, "two topics", f)
}

func TestNext(t *testing.T) {
	next := func(seg int) api.Finding { return found(api.FkNext, segName(3, seg)) }
	shelves := func(last shelf) []shelf { return []shelf{shut(1, put(2, "a", "")), shut(2, put(4, "b", "")), last} }
	man := func(next int64, segs ...int) string {
		return manOf(api.Manifest{Id: 3, NextSeg: 99, Next: next, Segs: segs})
	}
	f := one(api.Manifest{}, shelves(open(3, put(9, "c", "")))...)
	wantFound(t, "just above", f.with("t3.man", man(5, 1, 2, 3)))
	wantFound(t, "far above", f.with("t3.man", man(1<<40, 1, 2, 3)))
	wantFound(t, "equal", f.with("t3.man", man(4, 1, 2, 3)), next(2))
	wantFound(t, "below", f.with("t3.man", man(3, 1, 2, 3)), next(2))
	wantFound(t, "below both", f.with("t3.man", man(2, 1, 2, 3)), next(1), next(2))
	wantFound(t, "0", f.with("t3.man", man(0, 1, 2, 3)), next(1), next(2))
	// The last one is not asked, be it sealed.
	wantFound(t, "a sealed last one", one(api.Manifest{}, shelves(shut(3, put(9, "c", "")))...).with("t3.man", man(5, 1, 2, 3)))
	// One that is not sealed is not asked either, and one without records says nothing by its base.
	open1 := f.with("t3.man", man(0, 1, 3)).with("t3.1.seg", open(1, put(2, "a", "")).bytes(3)).without("t3.1.hint", "t3.2.seg", "t3.2.hint")
	wantFound(t, "an open one", open1, found(api.FkOpen, "t3.1.seg"))
	wantFound(t, "an empty one", one(api.Manifest{}, shelf{number: 1, base: 77, sealed: true}, open(3)))
	// One that is sealed, with more behind, is.
	more := f.with("t3.man", man(4, 1, 2, 3)).with("t3.2.seg", f["t3.2.seg"]+"x")
	wantFound(t, "with more behind", more, foundAt(api.FkTorn, "t3.2.seg", len(f["t3.2.seg"])), next(2))
}

func TestHints(t *testing.T) {
	h := found(api.FkHint, "t3.2.hint")
	f := whole()
	s := second()
	for what, bad := range damages(f, "t3.2.hint") {
		switch what {
		case "missing":
			wantFound(t, what, bad)
		case "beside":
			wantFound(t, what, bad, found(api.FkOrphan, "t3.2.hint.tmp"))
		case "beside, also":
			wantFound(t, what, bad, h, found(api.FkOrphan, "t3.2.hint.tmp"))
		default:
			wantFound(t, what, bad, h)
		}
	}
	other := s
	other.number = 3
	changed := s
	changed.recs = []api.Record{gone(2, "a"), put(4, "d", "4")}
	longer := s
	longer.recs = append(s.recs[:2:2], put(5, "e", ""))
	late := s
	late.recs = []api.Record{gone(2, "a"), at(8, put(4, "c", "4"))}
	alive := s
	alive.recs = []api.Record{put(2, "a", ""), put(4, "c", "4")}
	for what, wrong := range map[string]shelf{
		"of another number": other, "of another key": changed, "of more records": longer, "of another time": late, "of a value": alive, "of no records": shut(2),
	} {
		wantFound(t, what, f.with("t3.2.hint", wrong.hint()), h)
	}
	// The value itself does not stand in a hint.
	same := s
	same.recs = []api.Record{gone(2, "a"), put(4, "c", "5")}
	wantFound(t, "of another value", f.with("t3.2.hint", same.hint()))
	// Of a segment with records of one key the last one counts.
	twice := one(api.Manifest{}, shut(1, put(0, "k", "a"), put(1, "k", "b")), open(2))
	wantFound(t, "a key twice", twice)
	wantFound(t, "a segment without records", one(api.Manifest{}, shut(1), open(2)))
	// A segment that is too long has no right hint.
	var recs []api.Record
	for i := range int64(66) {
		recs = append(recs, sized(i, 1000))
	}
	long := stored(api.Manifest{Id: 3, Next: 70}, open(1, recs...), open(2))
	long["t3.1.seg"] = shut(1, recs...).bytes(3)
	long["catalog"] = catalogue(4, entry(3, "a"))
	wantFound(t, "a long segment", long)
	wantFound(t, "a long segment, with a hint", long.with("t3.1.hint", shut(1, recs[:65]...).hint()), found(api.FkHint, "t3.1.hint"))
}

func TestOrphansAndStrangers(t *testing.T) {
	for _, name := range []string{
		"t3.man.tmp", "t3.5.seg.tmp", "t3.5.hint.tmp", "t3.99.seg", "t3.99.hint", "t3.99.seg.tmp", "t3.99.hint.tmp", "t3.7.hint", "t3.1073741823.seg",
		"t1.2.seg", "t1.8.hint", "t4.1.hint", "t4.man.tmp", "t0.man.tmp", "t0.2.seg", "t0.1.hint", "t0.9.hint.tmp",
	} {
		wantFound(t, name, whole().with(name, ""), found(api.FkOrphan, name))
	}
	for _, name := range []string{
		"catalog.tmp", "t2.man", "t2.man.tmp", "t2.1.seg", "t2.1.seg.tmp", "t2.1.hint", "t2.1.hint.tmp", "t1073741823.man", "t1073741823.1073741823.seg.tmp",
	} {
		wantFound(t, name, whole().with(name, ""), found(api.FkStranger, name))
	}
	// Whatever lies in them.
	wantFound(t, "a whole segment", whole().with("t3.99.seg", shut(99, first().recs...).bytes(3)), found(api.FkOrphan, "t3.99.seg"))
	wantFound(t, "a whole topic", whole().and(stored(api.Manifest{Id: 2}, shut(1), open(2))),
		found(api.FkStranger, "t2.1.hint"), found(api.FkStranger, "t2.1.seg"), found(api.FkStranger, "t2.2.seg"), found(api.FkStranger, "t2.man"))
	for name := range others() {
		wantFound(t, name, whole().with(name, "x"), found(api.FkOther, name))
	}
}

// Several things at once, for their order.
func TestTheOrderOfFindings(t *testing.T) {
	f := whole().
		without("t1.man").
		turned("t3.5.seg", -1).
		with("t3.2.seg", shut(2, put(0, "z", ""), put(40, "z", "")).bytes(3)+"x").
		cut("t3.7.seg", 1).
		with("t0.1.seg", open(2).bytes(0)).
		with("t3.man.tmp", "").with("t10.man", "").with("t2.9.seg", "").with("t0.man.tmp", "").with("t1.man.tmp", "").with("t1.99.seg", "").
		with("t4.88.hint", "").with("t4.9.seg", "").with("catalog.tmp", "").with("b", "").with("z", "").with("t3.12.seg", "").with("t3.9.seg", "")
	wantFound(t, "much", f,
		found(api.FkSegment, "t0.1.seg"),
		found(api.FkManifest, "t1.man"),
		foundAt(api.FkTorn, "t3.5.seg", first().size()), found(api.FkOpen, "t3.5.seg"), found(api.FkHint, "t3.5.hint"),
		foundAt(api.FkTorn, "t3.2.seg", 21+sizes([]api.Record{put(0, "z", ""), put(40, "z", "")})+17), foundAt(api.FkOrder, "t3.2.seg", 21), found(api.FkNext, "t3.2.seg"), found(api.FkHint, "t3.2.hint"),
		foundAt(api.FkTorn, "t3.7.seg", 21+sizes(third().recs[:2])), foundAt(api.FkOrder, "t3.7.seg", 21),
		found(api.FkOrphan, "t0.man.tmp"),
		found(api.FkOrphan, "t3.12.seg"), found(api.FkOrphan, "t3.9.seg"), found(api.FkOrphan, "t3.man.tmp"),
		found(api.FkOrphan, "t4.88.hint"), found(api.FkOrphan, "t4.9.seg"),
		found(api.FkStranger, "catalog.tmp"), found(api.FkStranger, "t10.man"), found(api.FkStranger, "t2.9.seg"),
		found(api.FkOther, "b"), found(api.FkOther, "z"),
	)
	// By rising numbers, whatever the names are, and in whatever order the catalogue has them.
	g := files{"catalog": catalogue(99, entry(20, "a"), entry(3, "b"), entry(10, "c"))}
	wantFound(t, "numbers", g, found(api.FkManifest, "t3.man"), found(api.FkManifest, "t10.man"), found(api.FkManifest, "t20.man"))
	h := g.and(stored(api.Manifest{Id: 3}, open(1))).and(stored(api.Manifest{Id: 10}, open(1))).and(stored(api.Manifest{Id: 20}, open(1)))
	wantFound(t, "orphans", h.with("t3.2.seg", "").with("t10.2.seg", "").with("t20.2.seg", ""),
		found(api.FkOrphan, "t3.2.seg"), found(api.FkOrphan, "t10.2.seg"), found(api.FkOrphan, "t20.2.seg"))
}

// The chapter's examples.
func TestExamples(t *testing.T) {
	s := shut(1, put(0, "k", "v"))
	f := stored(api.Manifest{Id: 1}, s, open(2)).with("catalog", catalogue(2, entry(1, "a")))
	wantFound(t, "1", nil, found(api.FkCatalogue, "catalog"))
	wantFound(t, "2: x.txt", f.with("x.txt", ""), found(api.FkOther, "x.txt"))
	wantFound(t, "2: t9.1.seg", f.with("t9.1.seg", ""), found(api.FkStranger, "t9.1.seg"))
	wantFound(t, "2: t1.man.tmp", f.with("t1.man.tmp", ""), found(api.FkOrphan, "t1.man.tmp"))
	wantFound(t, "3", f.without("t1.1.hint").turned("t1.1.seg", -1), foundAt(api.FkTorn, "t1.1.seg", s.size()), found(api.FkOpen, "t1.1.seg"))
	cut := f.cut("t1.man", 1)
	wantFound(t, "4", cut, found(api.FkManifest, "t1.man"))
	wantSaved(t, "4", salvaged(t, "4", holding(t, cut)), []api.Saved{{Name: "a", Id: 1, Records: s.recs}})
}
