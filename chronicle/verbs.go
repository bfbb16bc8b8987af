package chronicle

import (
	"math"

	"chronicle/api"
	"chronicle/broker"
	"chronicle/fsck"
	"chronicle/shell"
	"chronicle/simfs"
	"chronicle/stream"
	"chronicle/wire"
)

// connOf is the connection that a command's label stands for: 0, which none has, if there is none.
func (p *player) connOf(c api.Command) int { return p.clients[c.Conn].conn }

func (p *player) open(c api.Command) {
	conn, e := p.store.Connect()
	reader, _ := stream.New(api.MaxFrame) // that limit may be
	p.clients[c.Conn] = client{conn, reader}
	p.tell("open", number(e))
}

func (p *player) shut(c api.Command) {
	p.tell("shut", number(p.store.Shut(p.connOf(c))))
}

func (p *player) say(c api.Command) {
	frame, e := wire.EncodeRequest(c.Request)
	if e != api.OK {
		p.tellFed("say", 0, e)
		return
	}
	p.feed("say", c, frame)
}

func (p *player) raw(c api.Command) { p.feed("raw", c, c.Raw) }

// feed hands the store bytes of a client.
func (p *player) feed(word string, c api.Command, chunk []byte) {
	n, e := p.store.Feed(p.connOf(c), chunk)
	p.tellFed(word, n, e)
}

// tellFed tells how many requests wait by what was fed.
func (p *player) tellFed(word string, n int, e api.Errno) { p.tell(word, number(e), number(n)) }

func (p *player) tick(c api.Command) {
	p.clock += min(max(c.N, 0), lastTime-p.clock)
	p.tell("tick", number(p.clock))
}

func (p *player) steps(c api.Command) {
	for _, pick := range c.Picks {
		d, e := p.store.Step(p.clock, pick)
		if e != api.OK {
			p.tell("did", "error", number(e))
			return
		}
		p.tell("did", number(d.What), number(d.Conn), number(d.Topic), number(d.Kind), number(d.Code), number(d.Count))
	}
}

func (p *player) take(c api.Command) {
	chunk, e := p.store.Out(p.connOf(c), int(c.N))
	if e == api.OK {
		for _, f := range p.clients[c.Conn].reader.Feed(chunk) {
			p.hear(f)
		}
	}
	p.tell("take", number(e))
}

// hear tells what has come for a client.
func (p *player) hear(f api.Framed) {
	r, e := responseOf(f)
	if e != api.OK {
		p.tell("got", "error", number(e))
		return
	}
	p.tell("got", shell.Show(r))
}

// responseOf is what a frame says.
func responseOf(f api.Framed) (api.Response, api.Errno) {
	if f.Kind != api.StFrame {
		return api.Response{}, f.Err
	}
	frame, _ := wire.Frame(f.Body) // it came as one
	return wire.DecodeResponse(frame)
}

func (p *player) fuse(c api.Command) {
	p.disk.Fuse(int(min(c.N, math.MaxInt)))
	p.tell("fuse")
}

// crash lets the power go, and opens the store over what is left. No connection outlives that.
func (p *player) crash(c api.Command) {
	disk, e := simfs.Load(p.disk.Crash(c.Picks), p.quota)
	p.disk, p.store, p.clients = disk, nil, map[int]client{}
	if e == api.OK {
		p.store, e = broker.Open(disk, p.cfg, p.clock)
	}
	p.tell("crash", number(e))
}

func (p *player) check(api.Command) {
	list, e := fsck.Check(p.disk)
	for _, f := range list {
		p.tell("found", number(f.Kind), f.File, number(f.At))
	}
	p.tell("check", number(e))
}

func (p *player) state(api.Command) {
	s := p.store.State()
	p.tell("state", number(s.Conns), number(s.Topics), number(s.Pending), number(s.Merges), flag(s.Dead))
	for _, t := range p.store.Topics() {
		p.tell("topic", t.Name, number(t.Id), number(t.Next), number(t.Segs), number(t.Live))
	}
}

// flag is how it is told whether something is so.
func flag(is bool) string {
	if is {
		return "1"
	}
	return "0"
}
