package chronicle

import (
	"strconv"
	"strings"

	"chronicle/api"
	"chronicle/broker"
	"chronicle/simfs"
	"chronicle/stream"
)

// lastTime is the greatest time that may be.
const lastTime = api.MaxTime - 1

// player is a store that a script is played on, and what has been told of it.
type player struct {
	cfg     api.Config
	quota   int
	disk    *simfs.Disk
	store   *broker.Broker // nil: there is none
	clock   int64
	clients map[int]client // by their labels in the script
	line    int            // the number of the line that is played
	told    strings.Builder
}

// client is who is at the other end of a connection.
type client struct {
	conn   int // the store's number for it; 0, which none has: it was refused
	reader *stream.Reader
}

// begin is a player with an empty store on a new disk.
func begin(quota int, cfg api.Config) (*player, api.Errno) {
	disk, e := simfs.New(quota)
	if e != api.OK {
		return nil, e
	}
	if e := broker.Format(disk, cfg, 0); e != api.OK {
		return nil, e
	}
	store, e := broker.Open(disk, cfg, 0)
	if e != api.OK {
		return nil, e
	}
	return &player{cfg: cfg, quota: quota, disk: disk, store: store, clients: map[int]client{}}, api.OK
}

// play does what a line says.
func (p *player) play(l line) {
	deeds := [...]func(*player, api.Command){
		api.VOpen:  (*player).open,
		api.VShut:  (*player).shut,
		api.VSay:   (*player).say,
		api.VRaw:   (*player).raw,
		api.VTick:  (*player).tick,
		api.VSteps: (*player).steps,
		api.VTake:  (*player).take,
		api.VFuse:  (*player).fuse,
		api.VCrash: (*player).crash,
		api.VCheck: (*player).check,
		api.VState: (*player).state,
	}
	p.line = l.number
	deeds[l.Verb](p, l.Command) // a line that was read has one of these
}

// tell tells a line: the number of the one that is played, and some parts.
func (p *player) tell(parts ...string) {
	p.told.WriteString(number(p.line))
	for _, part := range parts {
		p.told.WriteString(" " + part)
	}
	p.told.WriteString(lineEnd)
}

// number is how a number is told.
func number[N ~int | ~int64](n N) string { return strconv.FormatInt(int64(n), 10) }
