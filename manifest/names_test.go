package manifest_test

import (
	"fmt"
	"math"
	"math/big"
	"regexp"
	"slices"
	"strings"
	"testing"

	"chronicle/api"
	"chronicle/manifest"
	"chronicle/probe"
	"chronicle/simfs"
)

// The names of the chapter's table: by the form, and the numbers by how great they are.
var form = regexp.MustCompile(`\A(?:t(0|[1-9][0-9]*)\.(?:([1-9][0-9]*)\.(seg|hint)|(man))|(catalog))(\.tmp)?\z`)

// slowParse tells what a name says by its form.
func slowParse(name string) api.FileName {
	p := form.FindStringSubmatch(name)
	if p == nil {
		return api.FileName{}
	}
	kinds := map[string]int{"seg": api.NSegment, "hint": api.NHint, "man": api.NManifest, "catalog": api.NCatalogue}
	n := api.FileName{Kind: kinds[p[3]+p[4]+p[5]], Tmp: p[6] != ""}
	for text, to := range map[string]*int{"i" + p[1]: &n.Id, "s" + p[2]: &n.Seg} {
		v, ok := new(big.Int).SetString(text[1:], 10)
		if ok && v.Cmp(big.NewInt(lastId)) > 0 {
			return api.FileName{}
		}
		if ok {
			*to = int(v.Int64())
		}
	}
	return n
}

// slowFileName tells a file's name by the chapter's table.
func slowFileName(n api.FileName) string {
	id, seg := n.Id >= 0 && n.Id <= lastId, n.Seg >= 1 && n.Seg <= lastId
	name := map[bool]string{
		n.Kind == 1 && id && seg:               fmt.Sprintf("t%d.%d.seg", n.Id, n.Seg),
		n.Kind == 2 && id && seg:               fmt.Sprintf("t%d.%d.hint", n.Id, n.Seg),
		n.Kind == 3 && id && n.Seg == 0:        fmt.Sprintf("t%d.man", n.Id),
		n.Kind == 4 && n.Id == 0 && n.Seg == 0: "catalog",
	}[true]
	if n.Tmp && name != "" {
		name += ".tmp"
	}
	return name
}

// 7.4
func TestNames(t *testing.T) {
	for name, n := range map[string]api.FileName{
		"t3.7.seg":                        {Kind: api.NSegment, Id: 3, Seg: 7},
		"t3.7.hint":                       {Kind: api.NHint, Id: 3, Seg: 7},
		"t3.man":                          {Kind: api.NManifest, Id: 3},
		"catalog":                         {Kind: api.NCatalogue},
		"t3.7.seg.tmp":                    {Kind: api.NSegment, Id: 3, Seg: 7, Tmp: true},
		"t3.7.hint.tmp":                   {Kind: api.NHint, Id: 3, Seg: 7, Tmp: true},
		"t3.man.tmp":                      {Kind: api.NManifest, Id: 3, Tmp: true},
		"catalog.tmp":                     {Kind: api.NCatalogue, Tmp: true},
		"t0.1.seg":                        {Kind: api.NSegment, Seg: 1},
		"t0.1.hint":                       {Kind: api.NHint, Seg: 1},
		"t0.man":                          {Kind: api.NManifest},
		"t10.100.seg":                     {Kind: api.NSegment, Id: 10, Seg: 100},
		"t1073741823.1073741823.seg":      {Kind: api.NSegment, Id: lastId, Seg: lastId},
		"t1073741823.1073741823.hint.tmp": {Kind: api.NHint, Id: lastId, Seg: lastId, Tmp: true},
		"t1073741823.man.tmp":             {Kind: api.NManifest, Id: lastId, Tmp: true},
	} {
		want(t, fmt.Sprint("Name of ", n), manifest.Name(n), name)
		want(t, "Parse of "+name, manifest.Parse(name), n)
		want(t, name+" by its form", slowParse(name), n)
	}
}

// Every FileName with fields that may be and that may not.
func TestNameOfAnything(t *testing.T) {
	numbers := []int{math.MinInt, -lastId, -1, 0, 1, 2, 7, 10, lastId - 1, lastId, lastId + 1, 1<<32 + 1, math.MaxInt}
	names := 0
	for _, kind := range []int{math.MinInt, -1, 0, 1, 2, 3, 4, 5, 257, math.MaxInt} {
		for _, id := range numbers {
			for _, seg := range numbers {
				for _, tmp := range []bool{false, true} {
					n := api.FileName{Kind: kind, Id: id, Seg: seg, Tmp: tmp}
					name := manifest.Name(n)
					want(t, fmt.Sprint("Name of ", n), name, slowFileName(n))
					if name != "" {
						names++
						want(t, "Parse of Name", manifest.Parse(name), n)
						wantFileName(t, name)
					}
				}
			}
		}
	}
	want(t, "names", names, 2*(7*6+7*6+7+1))
}

// wantFileName fails unless a disk takes the name.
func wantFileName(t *testing.T, name string) {
	t.Helper()
	d, _ := simfs.New(0)
	want(t, "Create of "+name, d.Create(name), api.OK)
}

// wantParsed fails unless a name says what its form tells, and Name gives it back; it tells the kind.
func wantParsed(t *testing.T, name string) int {
	t.Helper()
	n := manifest.Parse(name)
	if n != slowParse(name) {
		t.Errorf("Parse(%q) = %v, want %v", name, n, slowParse(name))
	}
	if n.Kind != api.NOther && manifest.Name(n) != name {
		t.Errorf("Name of Parse(%q) = %q", name, manifest.Name(n))
	}
	return n.Kind
}

// Names that are put together of parts that may be and that may not.
func TestParseOfAnything(t *testing.T) {
	numbers := []string{"", "0", "1", "3", "7", "10", "00", "01", "03", "007", "1073741822", "1073741823", "1073741824", "01073741823", "2147483648", "4294967299", "4294967296",
		"9223372036854775807", "9223372036854775808", "18446744073709551616", "18446744073709551619", strings.Repeat("9", 40), "-1", "-0", "+0", "+3", "- 1", "1_0", "0x3", "0b1", "1e1", " 3", "3 ", "3.0", "a", "t", "t3", "٣", "３", "\x00", "3\x00", "\xff"}
	ends := []string{"seg", "hint", "man", "", "catalog", "Seg", "SEG", "segs", "se", "hin", "hints", "mann", "ma", "tmp", "seg ", " seg", "seg.", ".seg", "man.", "seg.seg", "man.man"}
	tails := []string{"", ".tmp", ".tmp.tmp", "tmp", ".TMP", ".tm", ".tmpx", ".", "..tmp", ".tmp.", " .tmp"}
	count := map[int]int{}
	for _, tail := range tails {
		for _, end := range ends {
			for _, id := range numbers {
				for _, ahead := range []string{"t", "", "T", "tt", "x", " t", "t.", "t-"} {
					count[wantParsed(t, ahead+id+"."+end+tail)]++
				}
				for _, seg := range numbers {
					count[wantParsed(t, "t"+id+"."+seg+"."+end+tail)]++
				}
			}
		}
	}
	// "seg." and "tmp" make an end too, and so does "man."; "t3" stands among the numbers.
	for kind, n := range map[int]int{api.NSegment: 3 * 7 * 6, api.NHint: 2 * 7 * 6, api.NManifest: 3 * (7 + 1)} {
		want(t, fmt.Sprint("names of kind ", kind), count[kind], n)
	}
}

func TestParseOfOthers(t *testing.T) {
	for _, name := range []string{"t03.man", "t3.seg", "t0.0.seg", "catalog.tmp.tmp", "x", "", ".tmp", ".", "..", "...", "t", "t.", "t..", "t..seg", "t3", "t3.", "t3.7", "t3.7.", "t3..seg", "t.7.seg", "t3.7.8.seg", "t3.7.man", "t3.0.man", "t3.0.hint",
		"t3.7seg", "t37.seg", "tman", "man", "seg", "3.man", "3.7.seg", "tt3.man", "catalog.man", "catalo", "catalogs", "Catalog", "catalog.", "catalog.tmpp", "catalog.tm", "catalogtmp", "tcatalog", "t0.catalog", "tmp", "t3.man.tmp.tmp", "t3.7.seg.tmp.tmp", "t3.man.", " t3.man",
		"t3.man ", "t3.man\n", "t3.man\x00", "t3.7.seg/", "/t3.man", "t3,man", "t3.7.seg.hint", "t3.7.hint.seg", "t3.man.seg", "t-0.man", "t+0.man", "t3.-7.seg", "t3.+7.seg"} {
		if n := manifest.Parse(name); n != (api.FileName{}) {
			t.Errorf("Parse(%q) = %v", name, n)
		}
		want(t, fmt.Sprintf("%q by its form", name), slowParse(name), api.FileName{})
	}
	for _, s := range []string{"9", "0", ".", "t", "3.", "\xff"} {
		if n := manifest.Parse("t" + strings.Repeat(s, 1<<20) + ".man"); n != (api.FileName{}) {
			t.Errorf("Parse of many %q = %v", s, n)
		}
	}
}

// A right name with one byte more, one less, or another one.
func TestParseOfNearNames(t *testing.T) {
	for _, name := range []string{"t3.7.seg", "t10.200.hint", "t3.man", "catalog", "t3.7.seg.tmp", "t0.1.hint.tmp", "t30.man.tmp", "catalog.tmp", "t1073741823.1073741823.seg"} {
		for at := range len(name) + 1 {
			for c := range 256 {
				sign := string([]byte{byte(c)})
				wantParsed(t, name[:at]+sign+name[at:])
				if at < len(name) {
					wantParsed(t, name[:at]+sign+name[at+1:])
				}
			}
			if at < len(name) {
				wantParsed(t, name[:at]+name[at+1:])
				wantParsed(t, name[:at])
				wantParsed(t, name[at:])
			}
		}
	}
}

// slowOrphans is the names that a manifest's topic has too much, told by their forms.
func slowOrphans(names []string, m api.Manifest) []string {
	var list []string
	for _, name := range names {
		n := slowParse(name)
		if !strings.HasPrefix(name, fmt.Sprintf("t%d.", m.Id)) || n.Kind == api.NOther {
			continue
		}
		at := -1
		for i, seg := range m.Segs {
			if seg == n.Seg {
				at = i
			}
		}
		seg, hinted := at >= 0, at >= 0 && at < len(m.Segs)-1
		right := n.Kind == api.NSegment && seg || n.Kind == api.NHint && hinted || n.Kind == api.NManifest
		if n.Tmp || !right {
			list = append(list, name)
		}
	}
	return list
}

// slowStrangers is the names of other topics than a catalogue's.
func slowStrangers(names []string, c api.Catalogue) []string {
	var list []string
	for _, name := range names {
		n := slowParse(name)
		named := slices.ContainsFunc(c.Topics, func(a api.TopicEntry) bool { return strings.HasPrefix(name, fmt.Sprintf("t%d.", a.Id)) })
		if name == "catalog.tmp" || n.Kind != api.NOther && n.Kind != api.NCatalogue && !strings.HasPrefix(name, "t0.") && !named {
			list = append(list, name)
		}
	}
	return list
}

// directory is names of all kinds, of some topics and segments, and such that say nothing.
func directory() []string {
	list := []string{"catalog", "catalog.tmp", "x", "", "catalog.tmp.tmp", "t3.seg", "t03.man", "t0.0.seg", "t3.0.hint", "t3.man.tmp.tmp", "t3.7.seg.tmpx", "T3.man", "other.tmp", ".tmp", "t3..seg", "-1"}
	for _, id := range []int{0, 1, 2, 3, 4, 30, lastId} {
		for _, tmp := range []string{"", ".tmp"} {
			list = append(list, fmt.Sprintf("t%d.man%s", id, tmp))
			for _, seg := range []int{1, 2, 3, 9, 300, lastId} {
				list = append(list, fmt.Sprintf("t%d.%d.seg%s", id, seg, tmp), fmt.Sprintf("t%d.%d.hint%s", id, seg, tmp))
			}
		}
	}
	return list
}

// 7.8
func TestOrphans(t *testing.T) {
	names := []string{"t3.1.seg", "t3.1.hint", "t3.2.seg", "t3.2.hint", "t3.9.seg", "t3.man", "t3.man.tmp", "t4.1.seg"}
	wantList(t, "the example", manifest.Orphans(names, small()), []string{"t3.2.hint", "t3.9.seg", "t3.man.tmp"})

	none := []string{"t3.1.seg", "t3.1.hint", "t3.2.seg", "t3.man", "catalog", "catalog.tmp", "t33.9.seg", "t33.man.tmp", "t0.9.seg", "x", ""}
	wantList(t, "all in order", manifest.Orphans(none, small()), nil)
	wantList(t, "no names", manifest.Orphans(nil, small()), nil)
	all := []string{"t3.man.tmp", "t3.1.seg.tmp", "t3.1.hint.tmp", "t3.2.seg.tmp", "t3.2.hint.tmp", "t3.9.seg.tmp", "t3.9.hint.tmp", "t3.2.hint", "t3.9.hint", "t3.9.seg"}
	wantList(t, "all too much", manifest.Orphans(all, small()), all)
	slices.Reverse(all)
	wantList(t, "in their order", manifest.Orphans(all, small()), all)
	twice := slices.Concat(all, none, all)
	wantList(t, "some of them twice", manifest.Orphans(twice, small()), slices.Concat(all, all))

	m := small()
	m.Segs = []int{2, 1}
	wantList(t, "numbers that fall", manifest.Orphans(names, m), []string{"t3.1.hint", "t3.9.seg", "t3.man.tmp"})
	m.Segs = []int{9}
	wantList(t, "one segment", manifest.Orphans(names, m), []string{"t3.1.seg", "t3.1.hint", "t3.2.seg", "t3.2.hint", "t3.man.tmp"})
}

// The topic 0: what is no file of a topic is none of this one's either, with and without .tmp.
func TestOrphansOfTheSystem(t *testing.T) {
	names := []string{"catalog", "catalog.tmp", "x", "x.tmp", "", "t0.man", "t0.1.seg", "t0.2.seg", "t0.1.hint", "t0.2.hint", "t0.0.seg", "t1.9.seg", "t0.9.hint", "t0.man.tmp"}
	m := api.Manifest{NextSeg: 3, Segs: []int{1, 2}}
	wantList(t, "topic 0", manifest.Orphans(names, m), []string{"t0.2.hint", "t0.9.hint", "t0.man.tmp"})
	wantList(t, "a zero manifest", manifest.Orphans(names, api.Manifest{}), []string{"t0.1.seg", "t0.2.seg", "t0.1.hint", "t0.2.hint", "t0.9.hint", "t0.man.tmp"})
}

func TestOrphansAgainstSlow(t *testing.T) {
	lists := [][]int{nil, {1}, {2}, {1, 2}, {2, 1}, {9, 3, 1}, {1, 2, 3, 9, 300, lastId}, {lastId}, {300, 9}, {0}, {1, 0}, {-1, 1}, {lastId + 1, 1}, row(1, 200)}
	for _, id := range []int{math.MinInt, -1, 0, 1, 2, 3, 5, 30, 300, lastId, lastId + 1} {
		for _, segs := range lists {
			m := api.Manifest{Id: id, NextSeg: 1000, Segs: segs}
			wantList(t, fmt.Sprint("topic ", id, ", segments ", segs), manifest.Orphans(directory(), m), slowOrphans(directory(), m))
		}
	}
}

// What a manifest says besides, and that it may not be, does not count.
func TestOrphansLooksAtSegmentsAlone(t *testing.T) {
	m := small()
	wanted := manifest.Orphans(directory(), m)
	m.NextSeg, m.Next, m.Mark, m.Clock, m.Prods = -5, -5, -6, -7, make([]api.Prod, 100)
	wantList(t, "a manifest that may not be", manifest.Orphans(directory(), m), wanted)
	want(t, "Check", manifest.Check(m), api.ErrManifest)
}

func catalogueOfIds(ids ...int) api.Catalogue {
	c := api.Catalogue{NextId: 1000}
	for i, id := range ids {
		c.Topics = append(c.Topics, api.TopicEntry{Id: id, Name: fmt.Sprint("n", i), Limit: 256})
	}
	return c
}

func TestStrangers(t *testing.T) {
	names := []string{"catalog", "catalog.tmp", "t0.man", "t1.man", "t2.1.seg", "x"}
	wantList(t, "some names", manifest.Strangers(names, catalogueOfIds(1)), []string{"catalog.tmp", "t2.1.seg"})
	wantList(t, "no names", manifest.Strangers(nil, catalogueOfIds(1)), nil)

	none := []string{"catalog", "t0.man", "t0.man.tmp", "t0.9.seg", "t0.9.hint.tmp", "x", "x.tmp", "", "t1.man", "t1.man.tmp", "t1.5.seg", "t1.5.seg.tmp", "t1.5.hint", "t1.5.hint.tmp", "t12.man", "t01.man", "t2.0.seg", "catalog.tmp.tmp"}
	wantList(t, "all in order", manifest.Strangers(none, catalogueOfIds(12, 1)), nil)
	all := []string{"t2.man", "t2.man.tmp", "catalog.tmp", "t2.5.seg", "t2.5.seg.tmp", "t2.5.hint", "t2.5.hint.tmp", "t11.man", "t1073741823.1073741823.hint.tmp"}
	wantList(t, "all strange", manifest.Strangers(all, catalogueOfIds(12, 1)), all)
	slices.Reverse(all)
	wantList(t, "in their order", manifest.Strangers(all, catalogueOfIds(1, 12)), all)
	wantList(t, "some of them twice", manifest.Strangers(slices.Concat(all, none, all), catalogueOfIds(12, 1)), slices.Concat(all, all))
	wantList(t, "no topics", manifest.Strangers([]string{"t1.man", "t0.man"}, api.Catalogue{}), []string{"t1.man"})
}

func TestStrangersAgainstSlow(t *testing.T) {
	for _, ids := range [][]int{nil, {0}, {1}, {3}, {1, 2, 3}, {4, 30}, {lastId}, {-1, lastId + 1, 0}, {3, 3}, row(1, 100)} {
		c := catalogueOfIds(ids...)
		wantList(t, fmt.Sprint("topics ", ids), manifest.Strangers(directory(), c), slowStrangers(directory(), c))
	}
}

// The names of topics, and that a catalogue may not be, do not count.
func TestStrangersLooksAtIdsAlone(t *testing.T) {
	c := api.Catalogue{Topics: []api.TopicEntry{{Id: 3}, {Id: 1, Name: "t2", Limit: -1}}}
	wantList(t, "a catalogue that may not be", manifest.Strangers(directory(), c), manifest.Strangers(directory(), catalogueOfIds(1, 3)))
	want(t, "CheckCatalogue", manifest.CheckCatalogue(c), api.ErrCatalogue)
}

// Long lists are gone through soon.
func TestLongDirectories(t *testing.T) {
	var names, orphans []string
	for i, x := range probe.Noise(5, 1<<16) {
		names = append(names, fmt.Sprintf("t%d.%d.seg", x%4, i+1))
		if x%4 == 3 {
			orphans = append(orphans, names[i])
		}
	}
	wantList(t, "Orphans", manifest.Orphans(names, small()), slices.DeleteFunc(slices.Clone(orphans), func(s string) bool { return s == "t3.1.seg" || s == "t3.2.seg" }))
	wantList(t, "Strangers", manifest.Strangers(names, catalogueOfIds(1, 2)), orphans)
	m := api.Manifest{Id: 3, Segs: row(1, 1<<17)}
	wantList(t, "Orphans of many segments", manifest.Orphans(names, m), nil)
	wantList(t, "Strangers of many topics", manifest.Strangers(names, catalogueOfIds(row(1, 1<<17)...)), nil)
}
