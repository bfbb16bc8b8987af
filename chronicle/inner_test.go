package chronicle

import (
	"math"
	"strings"
	"testing"

	"chronicle/api"
	"chronicle/simfs"
	"chronicle/wire"
)

// Some of what the chapter tells no script comes to, as long as the layers below hold their promises: a line's numbers have bounds, a broker sends right frames, and a store opens behind each crash. So these are played from inside.

// beginner is a player at its beginning.
func beginner(t *testing.T) *player {
	t.Helper()
	p, e := begin(1<<20, api.Config{Limit: 256, Horizon: 100, Share: 50})
	if e != api.OK {
		t.Fatal(e)
	}
	return p
}

// plays plays commands, each on a line of its own, which tell just that.
func (p *player) plays(t *testing.T, wanted string, list ...api.Command) {
	t.Helper()
	p.told.Reset()
	for i, c := range list {
		p.play(line{i + 1, c})
	}
	if got := p.told.String(); got != strings.TrimPrefix(wanted, "\n") {
		t.Errorf("told\n%s\nwant%s", got, wanted)
	}
}

// all is a command of each verb, but for VCrash.
func all() []api.Command {
	return []api.Command{
		{Verb: api.VOpen, Conn: 1}, {Verb: api.VShut, Conn: 1}, {Verb: api.VSay, Conn: 1, Request: api.Request{Op: api.OpPing}}, {Verb: api.VRaw, Conn: 1, Raw: []byte{0xc5}}, {Verb: api.VTick, N: 1},
		{Verb: api.VSteps, Picks: []int{0, 1}}, {Verb: api.VTake, Conn: 1, N: 9}, {Verb: api.VFuse, N: 7}, {Verb: api.VState},
	}
}

// Where there is no store every call of it answers ErrNil, till a later VCrash.
const noStore = `
1 open 1
2 shut 1
3 say 1 0
4 raw 1 0
5 tick 1
6 did error 1
7 take 1
8 fuse
9 state 0 0 0 0 0
`

// 24.3: VCrash of an image whose store does not open, and again behind that.
func TestNoStore(t *testing.T) {
	for errno, image := range map[string][]api.File{
		"203": nil, // no catalogue
		"72":  {{Name: "catalog", Data: []byte("none")}, {Name: "x"}},
		"100": {{Name: "catalog", Data: beginner(t).disk.Image()[0].Data}}, // no topic of the groups
	} {
		p := beginner(t)
		p.plays(t, "1 open 0\n2 say 0 1\n", api.Command{Verb: api.VOpen, Conn: 1}, api.Command{Verb: api.VSay, Conn: 1, Request: api.Request{Op: api.OpPing}})
		good := p.disk
		p.disk, _ = simfs.Load(image, 1<<20)
		p.plays(t, "1 crash "+errno+"\n", api.Command{Verb: api.VCrash})
		p.plays(t, noStore, all()...)
		p.plays(t, "1 crash "+errno+"\n2 crash "+errno+"\n", api.Command{Verb: api.VCrash, Picks: []int{1, 2}}, api.Command{Verb: api.VCrash})
		p.clock = 0
		p.plays(t, noStore, all()...)
		if p.disk.Quota() != 1<<20 || p.disk.Dead() {
			t.Errorf("%s: the disk: %d, %v", errno, p.disk.Quota(), p.disk.Dead())
		}
		p.disk = good
		p.plays(t, "1 crash 0\n2 say 201 0\n3 take 201\n4 open 0\n5 say 0 1\n6 state 1 0 0 0 0\n", api.Command{Verb: api.VCrash}, all()[2], all()[6], all()[0], all()[2], all()[8])
	}
}

// VCheck tells what is on the disk, where there is no store too, each finding with its file and its place.
func TestCheckWithoutStore(t *testing.T) {
	p := beginner(t)
	image := p.disk.Image()
	image[1].Data = append(image[1].Data, 7)
	image = append(image, api.File{Name: "t3.1.seg.tmp"}, api.File{Name: "x.txt", Data: []byte("x")})
	p.disk, _ = simfs.Load(image, 1<<20)
	p.plays(t, "1 found 3 t0.1.seg 21\n1 found 9 t3.1.seg.tmp 0\n1 found 10 x.txt 0\n1 check 0\n", api.Command{Verb: api.VCheck})
	p.disk, _ = simfs.Load(nil, 1<<20)
	p.plays(t, "1 crash 203\n2 found 0 catalog 0\n2 check 0\n", api.Command{Verb: api.VCrash}, api.Command{Verb: api.VCheck})
}

// An image that is none: then there is no disk either.
func TestNoDisk(t *testing.T) {
	p := beginner(t)
	p.quota = -1
	p.plays(t, "1 open 0\n2 crash 3\n", api.Command{Verb: api.VOpen, Conn: 1}, api.Command{Verb: api.VCrash})
	p.plays(t, noStore, all()...)
	p.plays(t, "1 check 1\n2 crash 3\n3 check 1\n", api.Command{Verb: api.VCheck}, api.Command{Verb: api.VCrash}, api.Command{Verb: api.VCheck})
	p.quota = 1 << 20
	p.plays(t, "1 crash 203\n", api.Command{Verb: api.VCrash})
	if image := p.disk.Image(); len(image) != 0 {
		t.Errorf("the image of no disk: %v", image)
	}
}

// What is no answer is told with its error: the reader's, or wire's. It does not end what is told.
func TestWhatIsHeard(t *testing.T) {
	answer, _ := wire.EncodeResponse(api.Response{Id: 7, Op: api.OpPing})
	request, _ := wire.EncodeRequest(api.Request{Id: 7, Op: api.OpPing})
	spoilt := append([]byte{}, answer...)
	spoilt[len(spoilt)-1] ^= 1
	long := append([]byte{0xc5, 0, 0, 0x0f, 0xf8}, make([]byte, 4092)...)
	p := beginner(t)
	p.plays(t, "1 open 0\n", api.Command{Verb: api.VOpen, Conn: 1})
	for _, c := range []struct {
		bytes  []byte
		wanted string
	}{
		{answer, "got 7 ping ok 0 0 last\n"},
		{request, "got error 162\n"},
		{spoilt, "got error 160\n"},
		{long, "got error 163\n"},
		{append(append(append([]byte{}, spoilt...), request...), answer...), "got error 160\n5 got error 162\n5 got 7 ping ok 0 0 last\n"},
		{[]byte{1}, "got error 160\n"},
		{answer, ""}, // the stream has been given up
	} {
		p.line = 5
		p.told.Reset()
		for _, f := range p.clients[1].reader.Feed(c.bytes) {
			p.hear(f)
		}
		wanted := c.wanted
		if wanted != "" {
			wanted = "5 " + wanted
		}
		if got := p.told.String(); got != wanted {
			t.Errorf("heard %x: %q, want %q", c.bytes, got, wanted)
		}
	}
	// Behind an error of the reader: its label is heard anew as soon as it is opened anew.
	p.plays(t, "1 take 0\n2 say 0 1\n3 did 1 1 0 1 0 0\n4 take 0\n5 open 0\n6 say 0 1\n7 did 1 2 0 1 0 0\n8 got 0 ping ok 0 0 last\n8 take 0\n",
		all()[6], all()[2], api.Command{Verb: api.VSteps, Picks: []int{0}}, api.Command{Verb: api.VTake, Conn: 1, N: 99},
		all()[0], all()[2], api.Command{Verb: api.VSteps, Picks: []int{0}}, api.Command{Verb: api.VTake, Conn: 1, N: 99})
}

// Numbers that no line has.
func TestNumbersOfNoLine(t *testing.T) {
	p := beginner(t)
	p.plays(t, `
1 tick 5
2 tick 5
3 tick 5
4 tick 1125899906842623
5 tick 1125899906842623
6 tick 1125899906842623
7 tick 1125899906842623
8 fuse
9 fuse
10 open 0
11 take 3
12 say 161 0
13 say 161 0
`,
		api.Command{Verb: api.VTick, N: 5}, api.Command{Verb: api.VTick, N: -1}, api.Command{Verb: api.VTick, N: math.MinInt64}, api.Command{Verb: api.VTick, N: math.MaxInt64}, api.Command{Verb: api.VTick, N: math.MaxInt64}, api.Command{Verb: api.VTick, N: math.MinInt64}, api.Command{Verb: api.VTick, N: -7},
		api.Command{Verb: api.VFuse, N: math.MaxInt64}, api.Command{Verb: api.VFuse, N: math.MinInt64},
		api.Command{Verb: api.VOpen, Conn: 1}, api.Command{Verb: api.VTake, Conn: 1, N: -1},
		// A request that wire does not encode: the connection is not even asked for.
		api.Command{Verb: api.VSay, Conn: 1, Request: api.Request{Op: 99}}, api.Command{Verb: api.VSay, Conn: 77, Request: api.Request{Op: api.OpPing, Key: "k"}})
}
