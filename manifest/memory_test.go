package manifest_test

import (
	"bytes"
	"slices"
	"testing"

	"chronicle/api"
	"chronicle/manifest"
	"chronicle/probe"
	"chronicle/simfs"
)

// roomy is a copy of a list with room behind its end, which holds something too, and a check that neither was changed.
func roomy[T comparable](list []T, behind T) ([]T, func() bool) {
	whole := append(slices.Clone(list), behind, behind, behind)
	kept := slices.Clone(whole)
	return whole[:len(list)], func() bool { return slices.Equal(whole, kept) }
}

// 7.9
func TestManifestsHandedInAreNotChanged(t *testing.T) {
	list := append(manifests(), api.Manifest{})
	for _, c := range edges() {
		list = append(list, c.m)
	}
	for _, m := range list {
		ok := slowCheck(m)
		b := slowEncode(m)
		segs, same := roomy(m.Segs, 899)
		prods, alike := roomy(m.Prods, api.Prod{Pid: lastPid, Seq: 1})
		m.Segs, m.Prods = segs, prods
		want(t, "Check", manifest.Check(m) == api.OK, ok)
		if got, e := manifest.Encode(m); (e == api.OK) != ok || ok && !bytes.Equal(got, b) {
			t.Errorf("Encode = %x, %d", got, e)
		}
		d := holding(t, nil)
		want(t, "Save", manifest.Save(d, m) == api.OK, ok)
		probe.Scribble(append(manifest.Orphans(directory(), m), "more"))
		if !same() || !alike() {
			t.Errorf("the lists of %v are changed, or what is behind them", m)
		}
	}
}

func TestCataloguesHandedInAreNotChanged(t *testing.T) {
	list := append(catalogues(), api.Catalogue{})
	for _, c := range catalogueEdges() {
		list = append(list, c.c)
	}
	for _, c := range list {
		ok := slowCatalogue(c)
		b := slowEncodeCatalogue(c)
		topics, same := roomy(c.Topics, api.TopicEntry{Id: 1, Name: "zz", Limit: 256})
		c.Topics = topics
		want(t, "CheckCatalogue", manifest.CheckCatalogue(c) == api.OK, ok)
		if got, e := manifest.EncodeCatalogue(c); (e == api.OK) != ok || ok && !bytes.Equal(got, b) {
			t.Errorf("EncodeCatalogue = %x, %d", got, e)
		}
		d := holding(t, nil)
		want(t, "SaveCatalogue", manifest.SaveCatalogue(d, c) == api.OK, ok)
		probe.Scribble(append(manifest.Strangers(directory(), c), "more"))
		if !same() {
			t.Errorf("the topics of %v are changed, or what is behind them", c)
		}
	}
}

func TestBytesHandedInAreNotChanged(t *testing.T) {
	for _, b := range right() {
		text := string(b)
		for _, s := range []string{"", text[:1], text[:9], text[:10], text[:len(text)-1], text, text + "x", "x" + text} {
			b, same := probe.Roomy(s)
			m, _ := manifest.Decode(b)
			c, _ := manifest.DecodeCatalogue(b)
			probe.Scribble(append(m.Segs, 1))
			probe.Scribble(append(m.Prods, api.Prod{}))
			probe.Scribble(append(c.Topics, api.TopicEntry{}))
			d := holding(t, map[string]string{"a": "old"})
			want(t, "Replace", manifest.Replace(d, "a", b), api.OK)
			d.Append("a", []byte("behind it"))
			if !same() {
				t.Errorf("%.30q is changed, or what is behind it", s)
			}
			if small, _ := simfs.New(3); len(s) > 3 {
				want(t, "Replace without room", manifest.Replace(small, "a", b), api.ErrSpace)
			}
			if !same() {
				t.Errorf("%.30q is changed where it is refused", s)
			}
		}
	}
}

// What stands in the room behind the end is not looked at.
func TestRoomBehindTheEndIsNotSeen(t *testing.T) {
	for _, b := range right() {
		for n := range b {
			wantNeither(t, "a first part, the rest behind it", b[:n])
		}
		wantDecoded(t, append(slices.Clone(b), "room"...)[:len(b)])
	}
	names := directory()
	wantList(t, "Orphans", manifest.Orphans(names[:20], small()), slowOrphans(slices.Clone(names[:20]), small()))
	m := small()
	m.Segs = append(m.Segs, 9)[:2]
	wantList(t, "Orphans", manifest.Orphans(names, m), slowOrphans(names, small()))
}

func TestNamesHandedInAreNotChanged(t *testing.T) {
	for n := range len(directory()) + 1 {
		names, same := roomy(directory()[:n], "t3.77.seg")
		wantList(t, "Orphans", manifest.Orphans(names, small()), slowOrphans(directory()[:n], small()))
		wantList(t, "Strangers", manifest.Strangers(names, catalogueOfIds(1, 3)), slowStrangers(directory()[:n], catalogueOfIds(1, 3)))
		probe.Scribble(append(manifest.Orphans(names, small()), "more"))
		probe.Scribble(append(manifest.Strangers(names, catalogueOfIds(1, 3)), "more"))
		if !same() {
			t.Errorf("a list of %d is changed, or what is behind it", n)
		}
	}
	all := []string{"t3.9.seg", "t3.man.tmp"}
	got := manifest.Orphans(all, small())
	probe.Scribble(got)
	wantList(t, "all names of a list", all, []string{"t3.9.seg", "t3.man.tmp"})
	got = manifest.Strangers(all, catalogueOfIds(1))
	probe.Scribble(got)
	wantList(t, "all names of a list", all, []string{"t3.9.seg", "t3.man.tmp"})
}

func TestNothingHandedInIsKept(t *testing.T) {
	d := holding(t, nil)
	m, c, b := rich(), pair(), []byte("some bytes")
	want(t, "Save", manifest.Save(d, m), api.OK)
	want(t, "SaveCatalogue", manifest.SaveCatalogue(d, c), api.OK)
	want(t, "Replace", manifest.Replace(d, "a", b), api.OK)
	wrote, _ := manifest.Encode(m)
	probe.Scribble(m.Segs)
	probe.Scribble(m.Prods)
	probe.Scribble(c.Topics)
	probe.Scribble(b)
	files := map[string]string{"t3.man": string(slowEncode(rich())), "catalog": string(slowEncodeCatalogue(pair())), "a": "some bytes"}
	wantImage(t, "what was written", d.Image(), files)
	wantImage(t, "what is durable", d.Crash(nil), files)

	m, e := manifest.Decode(wrote)
	b = slowEncodeCatalogue(pair())
	c, f := manifest.DecodeCatalogue(b)
	probe.Scribble(wrote)
	probe.Scribble(b)
	wantManifest(t, "Decode", m, e, rich())
	wantCatalogue(t, "DecodeCatalogue", c, f, pair())

	names := directory()
	orphans, strangers := manifest.Orphans(names, small()), manifest.Strangers(names, pair())
	probe.Scribble(names)
	wantList(t, "Orphans", orphans, slowOrphans(directory(), small()))
	wantList(t, "Strangers", strangers, slowStrangers(directory(), pair()))
}

func TestAnswersAreNewMemory(t *testing.T) {
	d := holding(t, map[string]string{"t3.man": string(slowEncode(rich())), "catalog": string(slowEncodeCatalogue(pair()))})
	b := slowEncode(rich())
	for what, call := range map[string]func() (api.Manifest, api.Errno){
		"Decode": func() (api.Manifest, api.Errno) { return manifest.Decode(b) },
		"Load":   func() (api.Manifest, api.Errno) { return manifest.Load(d, 3) },
	} {
		first, _ := call()
		second, e := call()
		probe.Scribble(append(first.Segs, 1))
		probe.Scribble(first.Segs)
		probe.Scribble(first.Prods)
		wantManifest(t, what, second, e, rich())
		third, e := call()
		wantManifest(t, what+" once more", third, e, rich())
	}
	bytesOf := slowEncodeCatalogue(pair())
	for what, call := range map[string]func() (api.Catalogue, api.Errno){
		"DecodeCatalogue": func() (api.Catalogue, api.Errno) { return manifest.DecodeCatalogue(bytesOf) },
		"LoadCatalogue":   func() (api.Catalogue, api.Errno) { return manifest.LoadCatalogue(d) },
	} {
		first, _ := call()
		second, e := call()
		probe.Scribble(first.Topics)
		wantCatalogue(t, what, second, e, pair())
		third, e := call()
		wantCatalogue(t, what+" once more", third, e, pair())
	}
	for what, call := range map[string]func() []byte{
		"Encode":          func() []byte { b, _ := manifest.Encode(rich()); return b },
		"EncodeCatalogue": func() []byte { b, _ := manifest.EncodeCatalogue(pair()); return b },
	} {
		first, second := call(), call()
		kept := bytes.Clone(second)
		probe.Scribble(first)
		if !bytes.Equal(second, kept) || !bytes.Equal(call(), kept) {
			t.Errorf("%s: an answer shows what was done to another one", what)
		}
	}
}

// What was read of a file is as it was, whatever is done to the file.
func TestManifestsOutliveTheirFiles(t *testing.T) {
	d := holding(t, map[string]string{"t3.man": string(slowEncode(rich())), "catalog": string(slowEncodeCatalogue(pair()))})
	m, e := manifest.Load(d, 3)
	c, f := manifest.LoadCatalogue(d)
	for _, name := range []string{"t3.man", "catalog"} {
		d.Truncate(name, 0)
		d.Append(name, make([]byte, 300))
	}
	wantManifest(t, "Load", m, e, rich())
	wantCatalogue(t, "LoadCatalogue", c, f, pair())
}
