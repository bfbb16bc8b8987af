package simfs_test

import (
	"maps"
	"slices"
	"strings"
	"testing"

	"chronicle/api"
	"chronicle/probe"
	"chronicle/simfs"
)

// kept is a file of the slow model: every state that it was seen in since its last sync, the durable one first, and what was appended from each to the next.
type kept struct {
	states []string
	added  []*string // nil: it was a truncation
}

func (f *kept) seen() string { return f.states[len(f.states)-1] }

// model is a slow disk: it keeps whole every directory that was seen since the last SyncDir, so that a crash needs no change to be done again (3.16).
type model struct {
	dirs  []map[string]*kept
	quota int
	ops   int
	fuse  int // below 0: none
	dead  bool
}

func newModel(list []api.File, quota int) *model {
	dir := map[string]*kept{}
	for _, f := range list {
		dir[f.Name] = &kept{states: []string{string(f.Data)}}
	}
	return &model{dirs: []map[string]*kept{dir}, quota: quota, fuse: -1}
}

func (m *model) dir() map[string]*kept { return m.dirs[len(m.dirs)-1] }

func (m *model) used() int {
	n := 0
	for _, f := range m.dir() {
		n += len(f.seen())
	}
	return n
}

// refusal is why an operation is not done, but for the fuse.
func (m *model) refusal(o op) api.Errno {
	right := func(s string) bool {
		return len(s) >= 1 && len(s) <= 32 && !strings.ContainsAny(s[:1], ".-_") && strings.Trim(s, "abcdefghijklmnopqrstuvwxyz0123456789.-_") == ""
	}
	f := m.dir()[o.name]
	switch {
	case m.dead:
		return api.ErrDead
	case o.verb == "syncdir":
		return api.OK
	case !right(o.name) || o.verb == "rename" && !right(o.to):
		return api.ErrName
	case o.verb == "create" && f != nil:
		return api.ErrExists
	case o.verb == "create":
		return api.OK
	case o.verb == "rename" && o.name == o.to:
		return api.ErrArg
	case f == nil:
		return api.ErrNoFile
	case o.verb == "append" && o.data != "" && m.used()+len(o.data) > m.quota:
		return api.ErrSpace
	case o.verb == "truncate" && (o.n < 0 || o.n > len(f.seen())):
		return api.ErrArg
	}
	return api.OK
}

func (m *model) do(o op) api.Errno {
	if e := m.refusal(o); e != api.OK {
		return e
	}
	if m.fuse == 0 {
		m.dead = true
		return api.ErrDead
	}
	m.fuse--
	m.ops++
	f := m.dir()[o.name]
	next := maps.Clone(m.dir())
	switch o.verb {
	case "append":
		f.states, f.added = append(f.states, f.seen()+o.data), append(f.added, &o.data)
		return api.OK
	case "truncate":
		f.states, f.added = append(f.states, f.seen()[:o.n]), append(f.added, nil)
		return api.OK
	case "sync":
		f.states, f.added = []string{f.seen()}, nil
		return api.OK
	case "syncdir":
		m.dirs = m.dirs[len(m.dirs)-1:]
		return api.OK
	case "create":
		next[o.name] = &kept{states: []string{""}}
	case "rename":
		next[o.to] = f
		delete(next, o.name)
	case "remove":
		delete(next, o.name)
	}
	m.dirs = append(m.dirs, next)
	return api.OK
}

// crash is what a loss of power leaves, as a text.
func (m *model) crash(picks []int) string {
	at := 0
	pick := func(n int) int {
		at++
		if at > len(picks) {
			return 0
		}
		return (picks[at-1]%n + n) % n
	}
	var words []string
	dir := m.dirs[pick(len(m.dirs))]
	for _, name := range slices.Sorted(maps.Keys(dir)) {
		f := dir[name]
		i := pick(len(f.states))
		data := f.states[i]
		if i < len(f.added) && f.added[i] != nil {
			data += (*f.added[i])[:pick(len(*f.added[i])+1)]
		}
		words = append(words, name+":"+data)
	}
	return strings.Join(words, " ")
}

func (m *model) image() string {
	var words []string
	for _, name := range slices.Sorted(maps.Keys(m.dir())) {
		words = append(words, name+":"+m.dir()[name].seen())
	}
	return strings.Join(words, " ")
}

var (
	verbs = strings.Fields("create create append append append append append truncate truncate sync syncdir rename rename remove")
	names = []string{"a", "a", "a", "b", "b", "b", "c", "c", "d.1", "d.1", "e_-", "", ".", "A", "c", "b"}
)

// anOp is an operation that a number tells.
func anOp(x uint64) op {
	o := op{verb: verbs[x%14], name: names[x>>8%16], to: names[x>>12%16], n: int(x>>16%9) - 1}
	o.data = "abcdefghijklmnop"[x>>20%4 : x>>20%4+x>>24%9]
	return o
}

// somePicks is picks that numbers tell.
func somePicks(list []uint64) []int {
	var picks []int
	for _, x := range list {
		picks = append(picks, int(x>>20%40)-20)
	}
	return picks
}

// agree holds a disk against the model.
func agree(t *testing.T, d *simfs.Disk, m *model, noise []uint64) {
	t.Helper()
	if got, wanted := shown(d.Image()), m.image(); got != wanted {
		t.Fatalf("Image = %q, want %q", got, wanted)
	}
	if d.Used() != m.used() || d.Ops() != m.ops || d.Dead() != m.dead || d.Quota() != m.quota {
		t.Fatalf("used %d, ops %d, dead %v, quota %d, want %d, %d, %v, %d", d.Used(), d.Ops(), d.Dead(), d.Quota(), m.used(), m.ops, m.dead, m.quota)
	}
	for n := range 8 {
		picks := somePicks(noise[n : n+n])
		if got, wanted := shown(d.Crash(picks)), m.crash(picks); got != wanted {
			t.Fatalf("Crash(%v) = %q, want %q", picks, got, wanted)
		}
	}
}

// 3.16, and all operations one behind the other, over losses of power.
func TestAgainstModel(t *testing.T) {
	for seed := range uint64(300) {
		d, _ := simfs.New(40)
		m := newModel(nil, 40)
		for i, x := range probe.Noise(seed+1, 120) {
			o := anOp(x)
			if got, wanted := o.on(d), m.do(o); got != wanted {
				t.Fatalf("seed %d: %d: %v = %d, want %d", seed, i, o, got, wanted)
			}
			agree(t, d, m, probe.Noise(x, 16))
			if x>>32%16 == 0 {
				m.quota = int(x >> 36 % 50)
				d.SetQuota(m.quota)
			}
			if x>>40%16 == 0 && !m.dead {
				m.fuse = int(x>>44%12) - 2
				d.Fuse(m.fuse)
			}
			if m.dead && x>>48%4 == 0 {
				left := d.Crash(somePicks(probe.Noise(x, 9)))
				d, _ = simfs.Load(left, 40)
				m = newModel(left, 40)
			}
		}
	}
}
