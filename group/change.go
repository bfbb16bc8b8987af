package group

import (
	"strconv"
	"strings"

	"chronicle/api"
	"chronicle/octet"
)

// The first letters of the keys.
const (
	genKey = "g"
	posKey = "p"
)

// change is what one record of the topic does.
type change interface {
	apply(s state)
	write() api.Write
}

// joined gives a group its next generation.
type joined struct {
	group string
	gen   int64
}

func (j joined) apply(s state) { s.gens[j.group] = j.gen }

func (j joined) write() api.Write {
	return api.Write{Key: genKey + "." + j.group, Value: short(j.gen)}
}

// set gives a group a position.
type set struct {
	place
	pos int64
}

func (c set) apply(s state) { s.positions[c.place] = c.pos }

func (c set) write() api.Write { return api.Write{Key: c.key(), Value: short(c.pos)} }

// forgotten takes a group's position away.
type forgotten struct{ place }

func (f forgotten) apply(s state) { delete(s.positions, f.place) }

func (f forgotten) write() api.Write { return api.Write{Key: f.key(), Tombstone: true} }

// key is the key of a position's records.
func (p place) key() string { return posKey + "." + p.group + "." + strconv.Itoa(p.id) }

// short is a number that is not below 0, as a value.
func short(n int64) string { return string(octet.Uvarint(uint64(n))) }

// changeOf is the change that a record tells. What is read of it is written anew and held against it: so there is one text for one thing.
func changeOf(r api.Record) (change, bool) {
	w := api.Write{Key: r.Key, Value: r.Value, Tombstone: r.Kind == api.KTombstone}
	c := guess(w)
	return c, c != nil && c.write() == w
}

// guess is the change that a text may be of: nil, if its numbers or its name may not be.
func guess(w api.Write) change {
	kind, rest, _ := strings.Cut(w.Key, ".")
	name, number, _ := strings.Cut(rest, ".")
	if CheckName(name) != api.OK {
		return nil
	}
	n, _, _ := octet.ReadUvarint([]byte(w.Value))
	id, _ := strconv.Atoi(number)
	p := place{name, id}
	switch {
	case kind == genKey && 0 < n && n < api.MaxGen:
		return joined{name, int64(n)}
	case kind == posKey && isId(id) && w.Tombstone:
		return forgotten{p}
	case kind == posKey && isId(id) && n <= api.MaxOffset:
		return set{p, int64(n)}
	}
	return nil
}

// isId tells whether a topic may have that number.
func isId(id int) bool { return 0 <= id && id < api.MaxId }

// CheckName tells whether a group may have the name.
func CheckName(name string) api.Errno {
	if len(name) == 0 || len(name) > api.MaxGroup {
		return api.ErrGroup
	}
	for _, c := range []byte(name) {
		if !isLetter(c) {
			return api.ErrGroup
		}
	}
	return api.OK
}

// isLetter tells whether a group's name may have that byte.
func isLetter(c byte) bool {
	return 'a' <= c && c <= 'z' || '0' <= c && c <= '9' || c == '-'
}
