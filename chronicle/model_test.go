package chronicle_test

import (
	"fmt"
	"math"
	"strings"

	"chronicle/api"
	"chronicle/broker"
	"chronicle/fsck"
	"chronicle/shell"
	"chronicle/simfs"
	"chronicle/stream"
	"chronicle/wire"
)

// slow plays a script as the chapter tells it, in plain steps on the layers below.
type slow struct {
	quota int
	cfg   api.Config
	disk  *simfs.Disk
	store *broker.Broker
	clock int64
	opens []*opening // what came of each VOpen
	line  int
	told  []string
}

// opening is what came of a VOpen: the connection, if there was one, and what was heard by it.
type opening struct {
	label, conn int
	heard       []byte
	known       int // so many things of what was heard have been told
}

// slowLines is the lines of a text, one cut off behind the other.
func slowLines(text string) []string {
	var lines []string
	for text != "" {
		line, rest, _ := strings.Cut(text, "\n")
		lines = append(lines, line)
		text = rest
	}
	return lines
}

// slowly is what a script comes to, and what it is played on.
func slowly(text string, quota int, cfg api.Config) (outcome, *slow) {
	lines := slowLines(text)
	if len(lines) > maxLines {
		return outcome{spot: api.Spot{Err: api.ErrLong}}, nil
	}
	commands := map[int]api.Command{}
	for i, line := range lines {
		if len(line) > maxLine {
			return outcome{spot: api.Spot{Err: api.ErrLong, At: i + 1}}, nil
		}
		if len(line) == 0 || line[0] == '#' {
			continue
		}
		c, e := shell.Parse(line)
		if e != api.OK {
			return outcome{spot: api.Spot{Err: e, At: i + 1}}, nil
		}
		commands[i+1] = c
	}
	s := &slow{quota: quota, cfg: cfg}
	if e := s.begin(); e != api.OK {
		return outcome{spot: api.Spot{Err: e}}, nil
	}
	for s.line = 1; s.line <= len(lines); s.line++ {
		if c, there := commands[s.line]; there {
			s.play(c)
		}
	}
	return outcome{told: strings.Join(s.told, ""), files: s.disk.Image()}, s
}

func (s *slow) begin() (e api.Errno) {
	if s.disk, e = simfs.New(s.quota); e != api.OK {
		return e
	}
	if e = broker.Format(s.disk, s.cfg, 0); e != api.OK {
		return e
	}
	s.store, e = broker.Open(s.disk, s.cfg, 0)
	return e
}

func (s *slow) tell(form string, parts ...any) {
	s.told = append(s.told, fmt.Sprintf("%d "+form+"\n", append([]any{s.line}, parts...)...))
}

// last is what came of the last VOpen of a label.
func (s *slow) last(label int) *opening {
	for i := len(s.opens) - 1; i >= 0; i-- {
		if s.opens[i].label == label {
			return s.opens[i]
		}
	}
	return &opening{}
}

func (s *slow) play(c api.Command) {
	o := s.last(c.Conn)
	switch c.Verb {
	case api.VOpen:
		conn, e := s.store.Connect()
		if e != api.OK {
			conn = 0
		}
		s.opens = append(s.opens, &opening{label: c.Conn, conn: conn})
		s.tell("open %d", e)
	case api.VShut:
		s.tell("shut %d", s.store.Shut(o.conn))
	case api.VSay:
		b, e := wire.EncodeRequest(c.Request)
		n := 0
		if e == api.OK {
			n, e = s.store.Feed(o.conn, b)
		}
		s.tell("say %d %d", e, n)
	case api.VRaw:
		n, e := s.store.Feed(o.conn, c.Raw)
		s.tell("raw %d %d", e, n)
	case api.VTick:
		if c.N > 0 {
			s.clock += c.N
		}
		if s.clock > maxTime-1 {
			s.clock = maxTime - 1
		}
		s.tell("tick %d", s.clock)
	case api.VSteps:
		s.steps(c.Picks)
	case api.VTake:
		s.take(o, c.N)
	case api.VFuse:
		n := c.N
		if n > math.MaxInt {
			n = math.MaxInt
		}
		s.disk.Fuse(int(n))
		s.tell("fuse")
	case api.VCrash:
		s.crash(c.Picks)
	case api.VCheck:
		list, e := fsck.Check(s.disk)
		if e == api.OK {
			for _, f := range list {
				s.tell("found %d %s %d", f.Kind, f.File, f.At)
			}
		}
		s.tell("check %d", e)
	case api.VState:
		s.state()
	}
}

func (s *slow) steps(picks []int) {
	for _, pick := range picks {
		d, e := s.store.Step(s.clock, pick)
		if e != api.OK {
			s.tell("did error %d", e)
			break
		}
		s.tell("did %d %d %d %d %d %d", d.What, d.Conn, d.Topic, d.Kind, d.Code, d.Count)
	}
}

// take cuts all that was ever heard into frames, and tells those that it has not told yet.
func (s *slow) take(o *opening, n int64) {
	b, e := s.store.Out(o.conn, int(n))
	if e != api.OK {
		s.tell("take %d", e)
		return
	}
	o.heard = append(o.heard, b...)
	list, _ := stream.Split(o.heard, 4096)
	for ; o.known < len(list); o.known++ {
		f := list[o.known]
		e := f.Err
		var r api.Response
		if f.Kind == api.StFrame {
			b, _ := wire.Frame(f.Body)
			r, e = wire.DecodeResponse(b)
		}
		if e == api.OK {
			s.tell("got %s", shell.Show(r))
		} else {
			s.tell("got error %d", e)
		}
	}
	s.tell("take 0")
}

func (s *slow) crash(picks []int) {
	disk, e := simfs.Load(s.disk.Crash(picks), s.quota)
	s.disk, s.store = disk, nil
	if e == api.OK {
		s.store, e = broker.Open(disk, s.cfg, s.clock)
	}
	for _, o := range s.opens {
		o.conn = 0
	}
	s.tell("crash %d", e)
}

func (s *slow) state() {
	b := s.store.State()
	dead := 0
	if b.Dead {
		dead = 1
	}
	s.tell("state %d %d %d %d %d", b.Conns, b.Topics, b.Pending, b.Merges, dead)
	for _, t := range s.store.Topics() {
		s.tell("topic %s %d %d %d %d", t.Name, t.Id, t.Next, t.Segs, t.Live)
	}
}
