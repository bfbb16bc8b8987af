package group_test

import (
	"fmt"
	"regexp"
	"slices"
	"strconv"
	"strings"
	"testing"

	"chronicle/api"
	"chronicle/group"
	"chronicle/merge"
	"chronicle/probe"
	"chronicle/simfs"
	"chronicle/topic"
)

// slow is groups as the chapter tells them: a list of records, which is gone through for every answer.
type slow struct {
	p   *topic.Topic
	log []entry
}

// entry is a record of the table: of the group's generation, if whose is empty, else of its position in the topic of that number.
type entry struct {
	offset      int64
	name, whose string
	n           int64
	gone        bool
}

var (
	slowName = regexp.MustCompile(`^[a-z0-9-]{1,24}$`)
	slowGen  = regexp.MustCompile(`^g\.([a-z0-9-]{1,24})$`)
	slowPos  = regexp.MustCompile(`^p\.([a-z0-9-]{1,24})\.(0|[1-9][0-9]*)$`)
)

func slowNew(p *topic.Topic) (*slow, api.Errno) {
	recs, e := p.Records()
	if e != api.OK {
		return nil, e
	}
	s := &slow{p: p}
	for _, r := range recs {
		one, ok := slowRead(r)
		if !ok {
			return nil, api.ErrDamaged
		}
		s.log = append(s.log, one)
	}
	return s, api.OK
}

func slowRead(r api.Record) (entry, bool) {
	n, ok := slowNumber(r.Value)
	if m := slowGen.FindStringSubmatch(r.Key); m != nil {
		return entry{offset: r.Offset, name: m[1], n: n}, ok && r.Kind == api.KValue && n >= 1 && n <= lastGen
	}
	m := slowPos.FindStringSubmatch(r.Key)
	if m == nil {
		return entry{}, false
	}
	if id, err := strconv.ParseInt(m[2], 10, 64); err != nil || id > lastId {
		return entry{}, false
	}
	if r.Kind == api.KTombstone {
		return entry{offset: r.Offset, name: m[1], whose: m[2], gone: true}, true
	}
	return entry{offset: r.Offset, name: m[1], whose: m[2], n: n}, ok && n <= lastPos
}

// slowNumber reads a short number of not more than 50 bits.
func slowNumber(value string) (int64, bool) {
	n := int64(0)
	for i := len(value) - 1; i >= 0 && len(value) < 8; i-- {
		n = n*128 + int64(value[i]%128)
	}
	return n, value == number(n)
}

// newest and firm are the records behind which the states are.
func (s *slow) newest() []entry { return s.log }

func (s *slow) firm() []entry {
	var list []entry
	for _, one := range s.log {
		if one.offset < s.p.State().Committed {
			list = append(list, one)
		}
	}
	return list
}

// last is the last number of a group's generation or position behind records; -1: none.
func last(log []entry, name, whose string) int64 {
	for _, one := range slices.Backward(log) {
		if one.name == name && one.whose == whose {
			if one.gone {
				return -1
			}
			return one.n
		}
	}
	return -1
}

// write appends a record.
func (s *slow) write(now int64, one entry) api.Errno {
	w := api.Write{Key: "g." + one.name, Value: number(one.n)}
	if one.whose != "" {
		w.Key = "p." + one.name + "." + one.whose
	}
	if one.gone {
		w.Value, w.Tombstone = "", true
	}
	offset, _, e := s.p.Append(now, w)
	if e == api.OK {
		one.offset = offset
		s.log = append(s.log, one)
	}
	return e
}

func (s *slow) join(now int64, name string) (int64, api.Errno) {
	if !slowName.MatchString(name) {
		return 0, api.ErrGroup
	}
	gen := max(last(s.newest(), name, ""), 0)
	if gen == lastGen {
		return 0, api.ErrNumber
	}
	if e := s.write(now, entry{name: name, n: gen + 1}); e != api.OK {
		return 0, e
	}
	return gen + 1, api.OK
}

func (s *slow) set(now int64, name string, gen int64, id int, pos int64) api.Errno {
	if !slowName.MatchString(name) {
		return api.ErrGroup
	}
	if id < 0 || id > lastId {
		return api.ErrArg
	}
	if pos < 0 || pos > lastPos {
		return api.ErrPlaceless
	}
	have := last(s.newest(), name, "")
	if have < 0 {
		return api.ErrNoGroup
	}
	if have != gen {
		return api.ErrFenced
	}
	return s.write(now, entry{name: name, whose: fmt.Sprint(id), n: pos})
}

func (s *slow) forget(now int64, id int) (int, api.Errno) {
	if id < 0 || id > lastId {
		return 0, api.ErrArg
	}
	n := 0
	for _, name := range everybody(s.newest()) {
		if last(s.newest(), name, fmt.Sprint(id)) < 0 {
			continue
		}
		if e := s.write(now, entry{name: name, whose: fmt.Sprint(id), gone: true}); e != api.OK {
			return n, e
		}
		n++
	}
	return n, api.OK
}

// everybody is all groups of which records tell, rising.
func everybody(log []entry) []string {
	var names []string
	for _, one := range log {
		if !slices.Contains(names, one.name) {
			names = append(names, one.name)
		}
	}
	slices.Sort(names)
	return names
}

// tells is what told tells of groups whose committed records are these.
func tells(log []entry, pending int) string {
	var all, joined []string
	for _, name := range names() {
		var list []api.GroupPos
		gen := last(log, name, "")
		all = append(all, "")
		head := len(all) - 1
		for _, id := range ids() {
			pos := last(log, name, fmt.Sprint(id))
			all = append(all, fmt.Sprintf("%d: %d %t 0", id, max(pos, 0), pos >= 0))
			if pos >= 0 {
				list = append(list, api.GroupPos{Group: name, Topic: id, Pos: pos})
			}
		}
		all[head] = fmt.Sprintf("%s: %d %t 0, %v", name, max(gen, 0), gen >= 0, list)
	}
	for _, name := range everybody(log) {
		if last(log, name, "") >= 0 {
			joined = append(joined, name)
		}
	}
	return strings.Join(all, "\n") + fmt.Sprint("\n", joined, pending)
}

func (s *slow) told() string { return tells(s.firm(), s.p.State().Pending) }

// twins is groups and slow ones, each on a disk of its own; what is done to one is done to the other.
type twins struct {
	g *group.Groups
	p *topic.Topic
	s *slow
}

func twinsOf(t *testing.T, p, other *topic.Topic) twins {
	t.Helper()
	s, e := slowNew(other)
	want(t, "the slow one", e, api.OK)
	w := twins{begun(t, p), p, s}
	w.same(t, "begun")
	return w
}

// fresh is twins of new topics.
func fresh(t *testing.T, limit int) twins {
	t.Helper()
	_, p := created(t, limit)
	_, other := created(t, limit)
	return twinsOf(t, p, other)
}

func (w twins) topics(do func(*topic.Topic)) {
	do(w.p)
	do(w.s.p)
}

func (w twins) disks(do func(*simfs.Disk)) {
	do(w.p.Disk())
	do(w.s.p.Disk())
}

// same fails unless the twins and their disks are alike in all that can be seen of them.
func (w twins) same(t *testing.T, what string) {
	t.Helper()
	d, twin := w.p.Disk(), w.s.p.Disk()
	if probe.Key(d.Image()) != probe.Key(twin.Image()) || d.Ops() != twin.Ops() || d.Dead() != twin.Dead() {
		t.Fatalf("%s: the disks are not alike: %d operations, want %d", what, d.Ops(), twin.Ops())
	}
	for _, picks := range [][]int{nil, {1}, {0, 0, 1}, {1, 1, 1, 1, 1, 1}} {
		want(t, what+": what a crash leaves", probe.Key(d.Crash(picks)) == probe.Key(twin.Crash(picks)), true)
	}
	want(t, what+": the topic", w.p.State(), w.s.p.State())
	want(t, what+": told", told(w.g), w.s.told())
}

func (w twins) join(t *testing.T, now int64, name string) (int64, api.Errno) {
	t.Helper()
	n, e := w.g.Join(now, name)
	if n2, e2 := w.s.join(now, name); n != n2 || e != e2 {
		t.Fatalf("Join(%d, %q) = %d, %d, want %d, %d", now, name, n, e, n2, e2)
	}
	return n, e
}

func (w twins) set(t *testing.T, now int64, name string, gen int64, id int, pos int64) api.Errno {
	t.Helper()
	e := w.g.Set(now, name, gen, id, pos)
	if e2 := w.s.set(now, name, gen, id, pos); e != e2 {
		t.Fatalf("Set(%d, %q, %d, %d, %d) = %d, want %d", now, name, gen, id, pos, e, e2)
	}
	return e
}

func (w twins) forget(t *testing.T, now int64, id int) (int, api.Errno) {
	t.Helper()
	n, e := w.g.Forget(now, id)
	if n2, e2 := w.s.forget(now, id); n != n2 || e != e2 {
		t.Fatalf("Forget(%d, %d) = %d, %d, want %d, %d", now, id, n, e, n2, e2)
	}
	return n, e
}

func (w twins) commit(t *testing.T) api.Errno {
	t.Helper()
	e := w.g.Commit()
	if e2 := w.s.p.Commit(); e != e2 {
		t.Fatalf("Commit = %d, want %d", e, e2)
	}
	return e
}

// merge merges both for so many steps, and then stops.
func (w twins) merge(now int64, steps int) {
	w.topics(func(p *topic.Topic) {
		m, e := merge.Start(p)
		if e != api.OK {
			return
		}
		for range steps {
			m.Step(now)
		}
		m.Stop()
	})
}

// 15.2: the slow ones take the same records, and no others.
func TestSlowOnesTakeTheSame(t *testing.T) {
	for _, w := range strange() {
		_, p := laid(t, w)
		if _, e := slowNew(p); e != api.ErrDamaged {
			t.Errorf("%q = %q: %d", w.Key, w.Value, e)
		}
	}
}

// 15.2: every short key and value out of the bytes that matter.
func TestNewOverAllShortKeys(t *testing.T) {
	taken := 0
	bytes := "gp.a0-1A"
	var keys []string
	for _, head := range []string{"", "g", "g.", "p", "p.", "p.a", "p.a.", "p.a.1"} {
		for i := range 8 * 8 * 8 {
			keys = append(keys, head+string([]byte{bytes[i%8], bytes[i/8%8], bytes[i/64]}))
		}
		for i := range 8 * 8 {
			keys = append(keys, head+string([]byte{bytes[i%8], bytes[i/8%8]}))
		}
	}
	for _, key := range keys {
		for _, w := range []api.Write{put(key, "\x01"), gone(key), put(key, "\x00"), put(key, "\x80\x01")} {
			_, p := laid(t, w)
			_, e := slowNew(p)
			if g, e2 := group.New(p); e != e2 || (g == nil) != (e != api.OK) {
				t.Fatalf("%q = %q, %t: %d, want %d", key, w.Value, w.Tombstone, e2, e)
			} else if e == api.OK {
				taken++
			}
		}
	}
	if taken < 300 {
		t.Errorf("%d are taken", taken)
	}
}
