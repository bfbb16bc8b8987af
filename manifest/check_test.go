package manifest_test

import (
	"fmt"
	"math"
	"slices"
	"strings"
	"testing"
	"unicode/utf8"

	"chronicle/api"
	"chronicle/manifest"
	"chronicle/probe"
)

// edge is a manifest at an edge, and whether it may be.
type edge struct {
	what  string
	m     api.Manifest
	right bool
}

// row is the numbers from the first one on, n of them.
func row(first, n int) []int {
	var l []int
	for i := range n {
		l = append(l, first+i)
	}
	return l
}

// prods is n producers whose Pids rise by one.
func prods(n int) []api.Prod {
	var l []api.Prod
	for i := range n {
		l = append(l, api.Prod{Pid: int64(i) + 1, Seq: 1, Off: 0})
	}
	return l
}

func edges() []edge {
	var list []edge
	add := func(what string, right bool, change func(m *api.Manifest)) {
		m := rich()
		change(&m)
		list = append(list, edge{what, m, right})
	}
	for n, ok := range map[int]bool{math.MinInt: false, -1: false, 0: true, 1: true, lastId: true, lastId + 1: false, 1<<32 + 3: false, math.MaxInt: false} {
		add(fmt.Sprint("Id ", n), ok, func(m *api.Manifest) { m.Id = n })
	}
	for n, ok := range map[int]bool{math.MinInt: false, -1: false, 0: false, 1: false, 2: true, 3: true, lastId: true, lastId + 1: true, lastId + 2: false, math.MaxInt: false} {
		add(fmt.Sprint("NextSeg ", n), ok, func(m *api.Manifest) { m.NextSeg, m.Segs = n, []int{1} })
	}
	for n, ok := range map[int64]bool{math.MinInt64: false, -1: false, 0: true, 1: true, lastOffset: true, lastOffset + 1: true, lastOffset + 2: false, math.MaxInt64: false} {
		add(fmt.Sprint("Next ", n), ok, func(m *api.Manifest) { m.Next, m.Mark, m.Prods = n, 0, nil })
	}
	for n, ok := range map[int64]bool{math.MinInt64: false, -1: false, 0: true, 1: true, 999: true, 1000: true, 1001: false, math.MaxInt64: false} {
		add(fmt.Sprint("Mark ", n), ok, func(m *api.Manifest) { m.Mark = n })
	}
	add("Mark 1, Next 0", false, func(m *api.Manifest) { m.Mark, m.Next, m.Prods = 1, 0, nil })
	add("Mark 0, Next 0", true, func(m *api.Manifest) { m.Mark, m.Next, m.Prods = 0, 0, nil })
	add("Mark -1, Next -1", false, func(m *api.Manifest) { m.Mark, m.Next, m.Prods = -1, -1, nil })
	for n, ok := range map[int64]bool{math.MinInt64: false, -1: false, 0: true, lastTime: true, lastTime + 1: false, math.MaxInt64: false} {
		add(fmt.Sprint("Clock ", n), ok, func(m *api.Manifest) { m.Clock = n })
	}
	return append(append(list, segEdges()...), prodEdges()...)
}

func segEdges() []edge {
	var list []edge
	add := func(what string, right bool, next int, segs ...int) {
		m := rich()
		m.NextSeg, m.Segs = next, segs
		list = append(list, edge{what, m, right})
	}
	add("no segments", false, 900)
	add("one segment", true, 900, 1)
	add("64 segments", true, 900, row(1, 64)...)
	add("65 segments", false, 900, row(1, 65)...)
	add("200 segments", false, 900, row(1, 200)...)
	add("as many numbers as there are", true, 65, row(1, 64)...)
	add("rising", true, 900, 1, 2, 3)
	add("falling", true, 900, 3, 2, 1)
	add("two, falling", true, 3, 2, 1)
	add("up and down", true, 900, 2, 3, 1)
	add("two alike, beside one another", false, 900, 1, 1)
	add("the last two alike", false, 900, 1, 2, 2)
	add("the first and the last alike", false, 900, 1, 2, 1)
	add("apart", false, 900, 5, 1, 7, 3, 7, 2)
	add("64, two alike", false, 900, append(row(1, 63), 1)...)
	add("a number 0", false, 900, 0)
	add("a number 0 behind another", false, 900, 1, 0)
	add("a number 0 ahead of another", false, 900, 0, 1)
	add("a number -1", false, 900, 1, -1)
	add("a number 1 alone", true, 2, 1)
	add("NextSeg - 1", true, 900, 899)
	add("NextSeg", false, 900, 900)
	add("NextSeg behind another", false, 900, 1, 900)
	add("NextSeg + 1", false, 900, 901)
	add("3, NextSeg 3", false, 3, 3)
	add("the greatest number", true, lastId+1, lastId)
	add("above it", false, lastId+1, lastId+1)
	add("the least int", false, 900, math.MinInt)
	add("the greatest int", false, 900, math.MaxInt)
	return list
}

func prodEdges() []edge {
	var list []edge
	add := func(what string, right bool, l ...api.Prod) {
		m := rich()
		m.Prods = l
		list = append(list, edge{what, m, right})
	}
	add("no producers", true)
	add("64 producers", true, prods(64)...)
	add("65 producers", false, prods(65)...)
	add("200 producers", false, prods(200)...)
	first := api.Prod{Pid: 7, Seq: 5, Off: 3}
	with := func(pid int64) api.Prod { return api.Prod{Pid: pid, Seq: 5, Off: 3} }
	add("Pids that rise by one", true, first, with(8))
	add("Pids that are alike", false, first, with(7))
	add("Pids that fall", false, first, with(6))
	add("Pids that fall at last", false, with(1), first, with(9), with(8))
	add("Pids that are alike, apart", false, first, with(8), with(7))
	add("the last two Pids alike", false, with(1), first, with(7))
	for n, ok := range map[int64]bool{math.MinInt64: false, -1: false, 0: false, 1: true, lastPid: true, lastPid + 1: false, math.MaxInt64: false} {
		add(fmt.Sprint("Pid ", n), ok, with(n))
		add(fmt.Sprint("Pid ", n, " behind another"), ok && n > 7, first, with(n))
	}
	for n, ok := range map[int64]bool{math.MinInt64: false, -1: false, 0: false, 1: true, lastSeq: true, lastSeq + 1: false, math.MaxInt64: false} {
		add(fmt.Sprint("Seq ", n), ok, api.Prod{Pid: 7, Seq: n, Off: 3})
		add(fmt.Sprint("Seq ", n, " behind another"), ok, first, api.Prod{Pid: 8, Seq: n, Off: 3})
	}
	for n, ok := range map[int64]bool{math.MinInt64: false, -1: false, 0: true, 999: true, 1000: false, 1001: false, math.MaxInt64: false} {
		add(fmt.Sprint("Off ", n), ok, api.Prod{Pid: 7, Seq: 5, Off: n})
		add(fmt.Sprint("Off ", n, " behind another"), ok, first, api.Prod{Pid: 8, Seq: 5, Off: n})
	}
	add("offsets and numbers that fall or are alike", true, api.Prod{Pid: 1, Seq: 9, Off: 9}, api.Prod{Pid: 2, Seq: 9, Off: 9}, api.Prod{Pid: 3, Seq: 1, Off: 1})
	add("a zero producer", false, api.Prod{})
	m := api.Manifest{NextSeg: 2, Segs: []int{1}, Prods: []api.Prod{{Pid: 1, Seq: 1, Off: 0}}}
	list = append(list, edge{"a producer and no offset", m, false})
	m.Next = 1
	return append(list, edge{"a producer and one offset", m, true})
}

// 7.1
func TestCheck(t *testing.T) {
	for _, c := range edges() {
		want(t, c.what+" as the chapter tells it", slowCheck(c.m), c.right)
		if c.right {
			wantBytes(t, c.what, c.m, slowEncode(c.m))
		} else {
			wantWrong(t, c.what, c.m)
		}
	}
	wantWrong(t, "a zero manifest", api.Manifest{})
	for _, m := range manifests() {
		wantBytes(t, "a right one", m, slowEncode(m))
	}
}

// pick is one of a list, mostly its first.
func pick[T any](x uint64, usual T, others ...T) T {
	if x%16 != 0 {
		return usual
	}
	return others[x>>4%uint64(len(others))]
}

// anyManifest is a manifest of which most may be.
func anyManifest(seed uint64) api.Manifest {
	x := probe.Noise(seed, 400)
	next := int64(x[0] % 50)
	m := api.Manifest{
		Id:      pick(x[1], int(x[1]>>8%lastId), -1, 0, lastId, lastId+1),
		NextSeg: pick(x[2], 2+int(x[2]>>8%1000), 1, 2, lastId+1, lastId+2),
		Next:    pick(x[3], next, -1, 0, lastOffset+1, lastOffset+2),
		Mark:    pick(x[4], int64(x[4]>>8)&0xffff%(next+1), -1, 0, next, next+1),
		Clock:   pick(x[5], int64(x[5]>>8&lastTime), -1, 0, lastTime, lastTime+1),
	}
	for i := range x[6]>>8%8 + 1 {
		m.Segs = append(m.Segs, pick(x[20+i], 1+int(x[20+i]>>8%uint64(max(m.NextSeg-1, 1))), 0, 1, m.NextSeg-1, m.NextSeg))
	}
	if x[6]%30 == 0 {
		m.Segs = row(1, int(x[6]>>16%3)+63)
	}
	pid := int64(0)
	for i := range x[7] >> 8 % 8 {
		y := x[40+3*i:]
		pid += int64(y[0] >> 8 % 9)
		m.Prods = append(m.Prods, api.Prod{
			Pid: pick(y[0], pid+1, 0, 1, lastPid, lastPid+1),
			Seq: pick(y[1], 1+int64(y[1]>>8&0xffff), 0, 1, lastSeq, lastSeq+1),
			Off: pick(y[2], int64(y[2]>>8%uint64(max(next, 1))), -1, 0, next-1, next),
		})
	}
	return m
}

func TestCheckAgainstSlow(t *testing.T) {
	count := map[bool]int{}
	for seed := range uint64(20000) {
		m := anyManifest(seed)
		count[slowCheck(m)]++
		if slowCheck(m) {
			wantBytes(t, "taken", m, slowEncode(m))
		} else {
			wantWrong(t, "refused", m)
		}
	}
	if count[true] < 1000 || count[false] < 1000 {
		t.Errorf("%v", count)
	}
}

func nameError(ok bool) api.Errno {
	if ok {
		return api.OK
	}
	return api.ErrTopicName
}

// wantName fails unless a topic's name is taken or refused, alone and in a catalogue.
func wantName(t *testing.T, name string, ok bool) {
	t.Helper()
	want(t, fmt.Sprintf("%q as the chapter tells it", name), slowName(name), ok)
	want(t, fmt.Sprintf("CheckName(%.60q)", name), manifest.CheckName(name), nameError(ok))
	c := api.Catalogue{NextId: 2, Topics: []api.TopicEntry{{Id: 1, Name: name, Limit: 256}}}
	if ok {
		wantBytesOf(t, name, c, slowEncodeCatalogue(c))
	} else {
		wantWrongOf(t, fmt.Sprintf("the name %.60q", name), c)
	}
}

// 7.2
func TestCheckName(t *testing.T) {
	for n := range 70 {
		for _, sign := range []string{"a", "z", "0", "9", "-"} {
			wantName(t, strings.Repeat(sign, n), 1 <= n && n <= 24)
		}
	}
	for c := range 256 {
		sign := string([]byte{byte(c)})
		ok := 'a' <= c && c <= 'z' || '0' <= c && c <= '9' || c == '-'
		for _, name := range []string{sign, sign + "b", "b" + sign, "b" + sign + "c", strings.Repeat("b", 23) + sign, sign + strings.Repeat("b", 23)} {
			wantName(t, name, ok)
		}
		wantName(t, strings.Repeat("b", 24)+sign, false)
	}
	for _, name := range []string{"a-1", "abcdefghijklmnopqrstuvwx", "yz0123456789-", "-", "--", "-a", "a-", "0", "007", "catalog", "t3"} {
		wantName(t, name, true)
	}
	wantName(t, strings.Repeat("a", 1<<20), false)
}

// Signs of more than one byte, and bytes that are no text. Some signs have a letter's lowest bits.
func TestCheckNameOfOtherSigns(t *testing.T) {
	signs := []string{"é", "ß", "ａ", "１", "–", "−", "\u00ad", "А", "а", "\u0161", "\u0430", "日本", "🙂", "\U00010061", "\u2061", "\ufffd", "\u0130", "\u017f", "\u212a", "a\u0301",
		"\x80", "\xc3", "\xc3a", "\xe3\x81", "\xff", "\xfe\xff", "\xed\xa0\x80", "\xc1\xa1", "\xe0\x81\xa1", "\xf4\x90\x80\x80", "\xf0\x80\x81\xa1"}
	for r := range rune(0x3000) {
		if r >= 0x80 {
			signs = append(signs, string(r))
		}
	}
	for _, sign := range signs {
		for _, name := range []string{sign, sign + "b", "b" + sign, "b" + sign + "c"} {
			if got := manifest.CheckName(name); got != api.ErrTopicName {
				t.Errorf("CheckName(%q) = %d", name, got)
			}
		}
	}
	for _, name := range []string{"é", strings.Repeat("é", 12), strings.Repeat("é", 13), strings.Repeat("é", 24), "\xff", strings.Repeat("\xff", 24)} {
		wantName(t, name, false)
	}
	if utf8.RuneCountInString(strings.Repeat("é", 24)) != 24 {
		t.Error("24 signs")
	}
}

// listing is a catalogue of topics that are right but for what is done to them.
func listing(names ...string) api.Catalogue {
	c := api.Catalogue{NextId: 100}
	for i, name := range names {
		c.Topics = append(c.Topics, api.TopicEntry{Id: 50 - i, Name: name, Limit: 300, Horizon: 7})
	}
	return c
}

// named is n names that rise.
func named(n int) []string {
	var l []string
	for i := range n {
		l = append(l, fmt.Sprintf("topic-%03d", i))
	}
	return l
}

// edgeOf is a catalogue at an edge, and whether it may be.
type edgeOf struct {
	what  string
	c     api.Catalogue
	right bool
}

func catalogueEdges() []edgeOf {
	var list []edgeOf
	add := func(what string, right bool, c api.Catalogue) { list = append(list, edgeOf{what, c, right}) }
	for n, ok := range map[int]bool{math.MinInt: false, -1: false, 0: false, 1: true, 2: true, lastId: true, lastId + 1: true, lastId + 2: false, math.MaxInt: false} {
		add(fmt.Sprint("NextId ", n), ok, api.Catalogue{NextId: n})
	}
	for _, n := range []int{0, 1, 15, 16, 17, 49} {
		add(fmt.Sprint(n, " topics"), n <= 16, listing(named(n)...))
	}
	for _, c := range [][]string{{"a", "b"}, {"a", "a-"}, {"a", "aa"}, {"-", "0", "9", "a", "z"}, {"9", "a"}, {"-z", "0"}, {"a9", "aa"}, {"zzz", "zzzz"}, {"10", "9"}} {
		add(fmt.Sprintf("names that rise, %q", c), true, listing(c...))
		slices.Reverse(c)
		add(fmt.Sprintf("names that fall, %q", c), false, listing(c...))
	}
	for _, c := range [][]string{{"a", "a"}, {"a", "b", "b"}, {"a", "b", "a"}, {"a", "c", "b"}, {"b", "a", "c"}, append(named(15), "topic-000"), append(named(15), "topic-014")} {
		add(fmt.Sprintf("names %q", c), false, listing(c...))
	}
	change := func(what string, right bool, f func(x *api.TopicEntry)) {
		for at := range 3 {
			c := listing("a", "b", "c")
			f(&c.Topics[at])
			add(fmt.Sprint(what, " at ", at), right, c)
		}
	}
	for n, ok := range map[int]bool{math.MinInt: false, -1: false, 0: false, 1: true, 99: true, 100: false, 101: false, math.MaxInt: false} {
		change(fmt.Sprint("Id ", n), ok, func(x *api.TopicEntry) { x.Id = n })
	}
	for n, ok := range map[int]bool{math.MinInt: false, -1: false, 0: false, 255: false, 256: true, 257: true, 65535: true, 65536: true, 65537: false, math.MaxInt: false} {
		change(fmt.Sprint("Limit ", n), ok, func(x *api.TopicEntry) { x.Limit = n })
	}
	for n, ok := range map[int64]bool{math.MinInt64: false, -1: false, 0: true, 1: true, 1 << 40: true, 1<<40 + 1: false, math.MaxInt64: false} {
		change(fmt.Sprint("Horizon ", n), ok, func(x *api.TopicEntry) { x.Horizon = n })
	}
	change("a zero topic", false, func(x *api.TopicEntry) { *x = api.TopicEntry{} })
	change("no name", false, func(x *api.TopicEntry) { x.Name = "" })
	for _, ids := range [][]int{{1, 2, 3}, {3, 2, 1}, {2, 3, 1}, {99, 1, 98}} {
		add(fmt.Sprint("Ids ", ids), true, withIds(ids))
	}
	for _, ids := range [][]int{{1, 1, 2}, {1, 2, 2}, {1, 2, 1}, {7, 7, 7}} {
		add(fmt.Sprint("Ids ", ids), false, withIds(ids))
	}
	return list
}

func withIds(ids []int) api.Catalogue {
	c := listing("a", "b", "c")
	for i, id := range ids {
		c.Topics[i].Id = id
	}
	return c
}

// 7.2
func TestCheckCatalogue(t *testing.T) {
	for _, c := range catalogueEdges() {
		want(t, c.what+" as the chapter tells it", slowCatalogue(c.c), c.right)
		if c.right {
			wantBytesOf(t, c.what, c.c, slowEncodeCatalogue(c.c))
		} else {
			wantWrongOf(t, c.what, c.c)
		}
	}
	wantWrongOf(t, "a zero catalogue", api.Catalogue{})
	for _, c := range catalogues() {
		wantBytesOf(t, "a right one", c, slowEncodeCatalogue(c))
	}
}

// anyCatalogue is a catalogue of which most may be.
func anyCatalogue(seed uint64) api.Catalogue {
	x := probe.Noise(seed, 200)
	c := api.Catalogue{NextId: pick(x[0], 20+int(x[0]>>8%1000), 0, 1, lastId+1, lastId+2)}
	names := []string{}
	for i := range x[1] >> 8 % 6 {
		names = append(names, pick(x[100+i], fmt.Sprintf("%x", x[100+i]>>8%0x1000), "", "A", "é", strings.Repeat("n", 24), strings.Repeat("n", 25)))
	}
	if x[1]%8 != 0 {
		slices.Sort(names)
	}
	for i, name := range names {
		y := x[10+4*i:]
		c.Topics = append(c.Topics, api.TopicEntry{
			Id:      pick(y[0], 1+int(y[0]>>8%19), 0, 1, c.NextId-1, c.NextId),
			Name:    name,
			Limit:   pick(y[1], 256+int(y[1]>>8%1000), 255, 256, 65536, 65537),
			Horizon: pick(y[2], int64(y[2]>>8%1000), -1, 0, 1<<40, 1<<40+1),
		})
	}
	return c
}

func TestCheckCatalogueAgainstSlow(t *testing.T) {
	count := map[bool]int{}
	for seed := range uint64(20000) {
		c := anyCatalogue(seed)
		count[slowCatalogue(c)]++
		if slowCatalogue(c) {
			wantBytesOf(t, "taken", c, slowEncodeCatalogue(c))
		} else {
			wantWrongOf(t, "refused", c)
		}
	}
	if count[true] < 1000 || count[false] < 1000 {
		t.Errorf("%v", count)
	}
}
