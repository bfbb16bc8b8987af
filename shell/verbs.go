package shell

import (
	"slices"

	"chronicle/api"
	"chronicle/wire"
)

// lastLabel is the greatest label of a connection.
const lastLabel = 999

// The fields that a verb may use, beside N, a bit for each.
const (
	useConn = 1 << iota
	useRequest
	useRaw
	usePicks
)

// verb is how the commands of a verb are written and read, and what they may have. N is from least to most: of verbs that do not use it, just 0.
type verb struct {
	word        string
	uses        int
	least, most int64
	write       func(*writer, api.Command)
	read        func(*reader, *api.Command)
}

// verbs is all verbs, by their numbers.
func verbs() []verb {
	return []verb{
		api.VOpen:  {word: "open", uses: useConn, write: writeConn, read: readConn},
		api.VShut:  {word: "shut", uses: useConn, write: writeConn, read: readConn},
		api.VSay:   {word: "say", uses: useConn | useRequest, write: writeSay, read: readSay},
		api.VRaw:   {word: "raw", uses: useConn | useRaw, write: writeRaw, read: readRaw},
		api.VTick:  {word: "tick", most: api.MaxTime, write: writeN, read: readN},
		api.VSteps: {word: "steps", uses: usePicks, write: writePicks, read: readPicks},
		api.VTake:  {word: "take", uses: useConn, most: api.MaxQuota, write: writeTake, read: readTake},
		api.VFuse:  {word: "fuse", least: -1, most: api.MaxQuota, write: writeN, read: readN},
		api.VCrash: {word: "crash", uses: usePicks, write: writePicks, read: readPicks},
		api.VCheck: {word: "check", write: writeNothing, read: readNothing},
		api.VState: {word: "state", write: writeNothing, read: readNothing},
	}
}

// verbOf is the row of a verb, if there is such a verb.
func verbOf(number int) (verb, bool) {
	list := verbs()
	if number < 0 || number >= len(list) {
		return verb{}, false
	}
	return list[number], true
}

// readCommand is the command that a right line's parts tell, and of other parts some command.
func readCommand(r *reader) api.Command {
	list, word := verbs(), r.word()
	number := slices.IndexFunc(list, func(v verb) bool { return v.word == word })
	if number < 0 {
		giveUp()
	}
	c := api.Command{Verb: number}
	list[number].read(r, &c)
	return c
}

// fits tells whether each field of a command may be as it is.
func (v verb) fits(c api.Command) bool {
	return filled(c)&^v.uses == 0 &&
		0 <= c.Conn && c.Conn <= lastLabel &&
		v.least <= c.N && c.N <= v.most &&
		(v.uses&useRequest == 0 || wire.CheckRequest(c.Request) == api.OK) &&
		// Each byte and each pick takes room in the line; such long lists are not even gone through.
		len(c.Raw) <= api.MaxLine && len(c.Picks) <= api.MaxLine
}

// filled is which fields of a command, beside N, are not zero.
func filled(c api.Command) int {
	fields := 0
	if c.Conn != 0 {
		fields |= useConn
	}
	if c.Request != (api.Request{}) {
		fields |= useRequest
	}
	if len(c.Raw) > 0 {
		fields |= useRaw
	}
	if len(c.Picks) > 0 {
		fields |= usePicks
	}
	return fields
}

func writeNothing(*writer, api.Command) {}

func readNothing(*reader, *api.Command) {}

func writeConn(w *writer, c api.Command) { w.number(int64(c.Conn)) }

func readConn(r *reader, c *api.Command) { c.Conn = int(r.number()) }

func writeN(w *writer, c api.Command) { w.number(c.N) }

func readN(r *reader, c *api.Command) { c.N = r.number() }

func writeTake(w *writer, c api.Command) {
	writeConn(w, c)
	writeN(w, c)
}

func readTake(r *reader, c *api.Command) {
	readConn(r, c)
	readN(r, c)
}

func writeRaw(w *writer, c api.Command) {
	writeConn(w, c)
	w.bytes(c.Raw)
}

func readRaw(r *reader, c *api.Command) {
	readConn(r, c)
	c.Raw = r.bytes()
}

func writePicks(w *writer, c api.Command) {
	for _, pick := range c.Picks {
		w.number(int64(pick))
	}
}

func readPicks(r *reader, c *api.Command) {
	for range r.parts {
		c.Picks = append(c.Picks, int(r.number()))
	}
}
