package group_test

import (
	"fmt"
	"testing"

	"chronicle/api"
	"chronicle/group"
	"chronicle/merge"
	"chronicle/probe"
	"chronicle/topic"
)

// history is groups, and what has been appended by them.
type history struct {
	t   *testing.T
	p   *topic.Topic
	g   *group.Groups
	log []entry // without an error

	firm int // how many of them are ahead of the last Commit that answered OK
}

func (h *history) join(name string) {
	if n, e := h.g.Join(0, name); e == api.OK {
		h.log = append(h.log, entry{name: name, n: n})
	}
}

func (h *history) set(name string, id int, pos int64) {
	gen := max(last(h.log, name, ""), 0)
	if h.g.Set(0, name, gen, id, pos) == api.OK {
		h.log = append(h.log, entry{name: name, whose: fmt.Sprint(id), n: pos})
	}
}

func (h *history) forget(id int) {
	var readers []string
	for _, name := range everybody(h.log) {
		if last(h.log, name, fmt.Sprint(id)) >= 0 {
			readers = append(readers, name)
		}
	}
	n, e := h.g.Forget(0, id)
	if n > len(readers) || e == api.OK && n < len(readers) {
		h.t.Fatalf("Forget(%d) = %d, %d, want %d", id, n, e, len(readers))
	}
	for _, name := range readers[:n] {
		h.log = append(h.log, entry{name: name, whose: fmt.Sprint(id), gone: true})
	}
}

func (h *history) commit() {
	if h.g.Commit() == api.OK {
		h.firm = len(h.log)
	}
}

func (h *history) merge(now int64, steps int) {
	m, e := merge.Start(h.p)
	for i := 0; e == api.OK && i < steps && !m.Over(); i++ {
		m.Step(now)
	}
	if steps%2 == 0 {
		m.Stop()
	}
}

// plots is what is done until the power goes.
func plots() map[string]func(*history) {
	return map[string]func(*history){
		"one by one": func(h *history) {
			h.join("a")
			h.set("a", 3, 7)
			h.commit()
			h.set("a", 3, 8)
			h.join("a")
			h.join("b")
			h.set("b", 0, 300)
			h.commit()
			h.forget(3)
			h.set("a", 3, 9)
			h.set("a", 1, 9)
			h.forget(1)
			h.commit()
			h.set("b", 0, 2)
		},
		"one Forget of many": func(h *history) {
			for i, name := range names() {
				h.join(name)
				h.set(name, 3, int64(i))
				h.set(name, 1, int64(i*100))
			}
			h.commit()
			h.forget(3)
			h.set("a", 3, 77)
			h.forget(1)
			h.commit()
			h.forget(3)
		},
		"without commits": func(h *history) {
			for i := range 16 {
				h.join("a")
				h.set("a", ids()[i%3], int64(i))
				h.join("b")
				if i%4 == 3 {
					h.forget(1)
				}
			}
		},
		"with rolls": func(h *history) {
			for i := range 5 {
				h.join("a")
				h.set("a", i%2*3, int64(i))
				h.p.Roll()
				h.forget(3)
				h.set("a", 1, int64(i*1000))
				if i%2 == 0 {
					h.commit()
				}
			}
		},
		"with merges": func(h *history) {
			for i := range 3 {
				h.join("a")
				h.join("b")
				h.set("a", 3, int64(i))
				h.set("b", 1, int64(i))
				h.forget(3)
				h.p.Roll()
				h.set("a", 0, int64(i))
				h.merge(int64(i*5), 40)
				h.set("b", 1, int64(i+100))
			}
		},
		"with cut merges": func(h *history) {
			for i := range 4 {
				h.join("a")
				h.set("a", 1, int64(i))
				h.p.Roll()
				h.set("a", ids()[i], 5)
				h.merge(9, 3+4*i)
				h.forget(1)
			}
			h.commit()
		},
	}
}

// 15.10
func TestCrashes(t *testing.T) {
	crashes, lost, kept := 0, 0, 0
	for what, plot := range plots() {
		for fuse := 0; ; fuse++ {
			d, p := created(t, 256)
			h := &history{t: t, p: p, g: begun(t, p)}
			d.Fuse(fuse)
			plot(h)
			for _, left := range probe.Leavings(d) {
				crashes++
				n := h.wantLeft(fmt.Sprintf("%s, power for %d", what, fuse), left)
				lost += len(h.log) - n
				kept += n - h.firm
			}
			if !d.Dead() {
				break
			}
		}
	}
	if crashes < 3000 || lost < 1000 || kept < 1000 {
		t.Errorf("%d crashes, %d lost, %d kept", crashes, lost, kept)
	}
}

// wantLeft fails unless New takes what is left, and tells the state behind some first part of what was appended, which is long enough. It tells how long.
func (h *history) wantLeft(what string, image []api.File) int {
	h.t.Helper()
	_, p := reopened(h.t, image, 256)
	g, e := group.New(p)
	if g == nil || e != api.OK {
		h.t.Fatalf("%s: New: %v, %d", what, g, e)
	}
	n := int(p.State().Next)
	if n < h.firm || n > len(h.log) {
		h.t.Fatalf("%s: %d records are left of %d, of which %d were committed", what, n, len(h.log), h.firm)
	}
	if got, wanted := told(g), tells(h.log[:n], 0); got != wanted {
		h.t.Fatalf("%s: told behind %d records:\n%s\nwant:\n%s", what, n, got, wanted)
	}
	// The newest state is the same one: the next generations and the positions tell it.
	for _, name := range everybody(h.log) {
		wantJoin(h.t, what, g, name, max(last(h.log[:n], name, ""), 0)+1, api.OK)
	}
	for _, id := range ids() {
		readers := 0
		for _, name := range everybody(h.log[:n]) {
			if last(h.log[:n], name, fmt.Sprint(id)) >= 0 {
				readers++
			}
		}
		wantForget(h.t, what, g, id, readers, api.OK)
	}
	return n
}
