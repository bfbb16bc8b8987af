package group_test

import (
	"strings"
	"testing"

	"chronicle/api"
	"chronicle/group"
)

// letters is all bytes of which a name may be made.
const letters = "abcdefghijklmnopqrstuvwxyz0123456789-"

// wrongNames is names of which no group may have one.
func wrongNames() []string {
	return []string{"", "A", "a.b", ".", "a.", ".a", " a", "a\n", "a_b", "a/b", "\x00", "ä", "a\xff", long + "y", strings.Repeat("-", 25), strings.Repeat("a", 5000), strings.Repeat("A", 25)}
}

// 15.1
func TestCheckName(t *testing.T) {
	for _, name := range []string{"a", "z", "0", "9", "-", "--", "a-1", "0-a", "g", "p", long, strings.Repeat("9", 23), strings.Repeat("-", 24)} {
		want(t, "CheckName "+name, group.CheckName(name), api.OK)
	}
	for _, name := range wrongNames() {
		want(t, "CheckName "+name, group.CheckName(name), api.ErrGroup)
	}
}

// 15.1: each byte, at each place of names of each length.
func TestCheckNameOfEachByte(t *testing.T) {
	for c := range 256 {
		wanted := api.ErrGroup
		if strings.IndexByte(letters, byte(c)) >= 0 {
			wanted = api.OK
		}
		for n := 1; n <= 24; n++ {
			for at := range n {
				name := []byte(long[:n])
				name[at] = byte(c)
				if e := group.CheckName(string(name)); e != wanted {
					t.Errorf("CheckName(%q) = %d, want %d", name, e, wanted)
				}
			}
		}
	}
}

// 15.1: each length.
func TestCheckNameOfEachLength(t *testing.T) {
	for n := range 300 {
		wanted := api.OK
		if n == 0 || n > 24 {
			wanted = api.ErrGroup
		}
		want(t, "CheckName", group.CheckName(strings.Repeat("k", n)), wanted)
	}
}

// 15.1: each call that is handed a name takes just these.
func TestNamesInCalls(t *testing.T) {
	for _, name := range []string{"a", "-", "0", long, strings.Repeat("z", 24)} {
		_, p, g := none(t)
		wantJoin(t, "a name", g, name, 1, api.OK)
		wantSet(t, "a name", g, name, 1, 7, 8, api.OK)
		wantCommit(t, "a name", g)
		wantAt(t, "a name", g, name, 7, 8)
		wantGen(t, "a name", g, name, 1)
		wantList(t, "Positions", g.Positions(name), []api.GroupPos{{Group: name, Topic: 7, Pos: 8}})
		wantList(t, "Names", g.Names(), []string{name})
		wantRecords(t, "a name", p, put("g."+name, "\x01"), put("p."+name+".7", "\x08"))
	}
	d, p, g := over(t, generation("a", 1), position("a", 7, 8))
	for _, name := range wrongNames() {
		undone(t, "no name", d, p, g, func() {
			wantJoin(t, "no name", g, name, 0, api.ErrGroup)
			wantSet(t, "no name", g, name, 1, 7, 8, api.ErrGroup)
			pos, there, e := g.At(name, 7)
			want(t, "At", pos == 0 && !there && e == api.ErrGroup, true)
			gen, there, e := g.Generation(name)
			want(t, "Generation", gen == 0 && !there && e == api.ErrGroup, true)
			want(t, "Positions", len(g.Positions(name)), 0)
		})
	}
}
