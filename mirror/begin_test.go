package mirror_test

import (
	"encoding/binary"
	"fmt"
	"math"
	"strings"
	"testing"

	"chronicle/api"
	"chronicle/mirror"
	"chronicle/probe"
	"chronicle/simfs"
	"chronicle/topic"
)

// 22.1 to 22.7: the chapter's examples.
func TestExamples(t *testing.T) {
	k := fresh(t)
	k.tails("1", 1, 0)
	k.hears("1", api.OK, subscribed(1, 0, 4), delivered(1, 2, value(0, "a", "1"), value(1, "b", "2")))
	k.wantState("1", api.MirTail, 2, 0, 2)
	k.holds("1", "a=1 b=2")

	unpowered(t, k.d)
	k = k.again()
	k.wantState("2", api.MirIdle, 2, 2, 0)
	k.tails("2", 1, 2)
	k.hears("2", api.OK, refused(1, api.OpSubscribe, api.CodeHorizonPassed))
	k.snaps("2", 2)
	k.hears("2", api.OK, snapped(2, 9, 4), final(2, 9, value(7, "b", "3")))
	k.wantState("2", api.MirTail, 9, 2, 1)
	k.tails("2", 3, 9)
	k.holds("2", "b=3")
	_, e := mirror.Open(k.d, "u", copyId, usual, 0)
	want(t, "5", e, api.ErrMirror)

	for _, wrong := range [][]byte{frames(t, delivered(5, 9)), {0xc5, 0, 0, 0, 1, 0, 0, 0, 0, 0x51}, {7}} {
		k = fresh(t)
		k.tails("3", 1, 0)
		want(t, "3: Hear", k.m.Hear(0, wrong), api.ErrSource)
		k.wantState("3", api.MirBroken, 0, 0, 0)
		k.m.Lost()
		k.wantState("3", api.MirIdle, 0, 0, 0)
		k.tails("3", 1, 0)
	}
	k.hears("4", api.OK, refused(1, api.OpSubscribe, api.CodeNoTopic))
	k.wantState("4", api.MirIdle, 0, 0, 0)
	k.asksNothing("4")
	k.m.Lost()
	k.tails("4", 1, 0)
}

// open fails unless a mirror is opened; or unless there is none, and this error.
func open(t *testing.T, what string, d *simfs.Disk, source string, id, limit int, now int64, wanted api.Errno) *mirror.Mirror {
	t.Helper()
	m, e := mirror.Open(d, source, id, limit, now)
	want(t, what+": Open", e, wanted)
	want(t, what+": a mirror", m != nil, wanted == api.OK)
	return m
}

// 22.1
func TestOpenOfWrongThings(t *testing.T) {
	d, _ := simfs.New(wide)
	untouched(t, "refused", d, func() {
		open(t, "nil", nil, "t", 3, usual, 0, api.ErrNil)
		open(t, "nil, and all else is wrong", nil, "T", -1, 0, -1, api.ErrNil)
		for _, source := range []string{"", "T", "a_b", " t", "t ", "é", "a\x00", strings.Repeat("a", 25), strings.Repeat("a", 5000)} {
			open(t, fmt.Sprintf("the source %.30q", source), d, source, 3, usual, 0, api.ErrTopicName)
			open(t, fmt.Sprintf("the source %.30q, and all else is wrong", source), d, source, -1, 0, -1, api.ErrTopicName)
		}
		for _, id := range []int{-1, lastId, lastId + 1, math.MinInt, math.MaxInt, -2} {
			open(t, fmt.Sprint("the number ", id), d, "t", id, usual, 0, api.ErrArg)
			open(t, fmt.Sprint("the number ", id, ", and all else is wrong"), d, "t", id, 0, -1, api.ErrArg)
		}
		for _, limit := range []int{255, 65537, 0, -1, math.MinInt, math.MaxInt} {
			open(t, fmt.Sprint("the limit ", limit), d, "t", 3, limit, 0, api.ErrConfig)
			open(t, fmt.Sprint("the limit ", limit, ", and a wrong time"), d, "t", 3, limit, -1, api.ErrConfig)
		}
		for _, now := range []int64{-1, lastTime + 1, math.MinInt64, math.MaxInt64} {
			open(t, fmt.Sprint("the time ", now), d, "t", 3, usual, now, api.ErrArg)
		}
	})
	open(t, "without power", unpowered(t, d), "t", 3, usual, 0, api.ErrDead)
	open(t, "without power, a wrong limit", d, "t", 3, 255, 0, api.ErrConfig)
	open(t, "without power, a wrong time", d, "t", 3, usual, -1, api.ErrArg)
	open(t, "a zero disk", &simfs.Disk{}, "t", 3, usual, 0, api.ErrSpace)
}

func TestOpenOfRightThings(t *testing.T) {
	for _, source := range []string{"t", "0", "-", "a-1", "z", strings.Repeat("z", 24)} {
		d, _ := simfs.New(wide)
		for _, limit := range []int{256, 65536} {
			for _, now := range []int64{0, lastTime} {
				k := &desk{t: t, d: d, m: open(t, source, d, source, 3, limit, now, api.OK)}
				k.asks(source, api.Request{Id: 1, Op: api.OpSubscribe, Topic: source})
				want(t, "the limit of the copy", k.m.Topic().Limit(), limit)
				want(t, "the clock", k.m.Topic().Tick(0), now)
			}
		}
	}
	for _, id := range []int{0, 1, lastId - 1} {
		d, _ := simfs.New(wide)
		m := open(t, "a number", d, "t", id, 300, 5, api.OK)
		want(t, "the copy's number", m.Topic().Id(), id)
		want(t, "the copy's disk", m.Topic().Disk(), d)
		want(t, "the copy's horizon", m.Topic().Horizon(), 0)
		want(t, "the copy's limit", m.Topic().Limit(), 300)
		want(t, "State", m.State(), api.MirState{})
		notes, e := topic.Open(loaded(t, d.Image()), id+1, 300, 0, 0)
		want(t, "Open of the notes", e, api.OK)
		recs, _ := notes.Records()
		wantList(t, "the notes", recs, []api.Record{{Kind: api.KValue, Time: 5, Key: "source", Value: "t"}})
		want(t, "their segments", len(d.Image()), 4)
	}
}

// twin does to a disk of the same files what Open says, by the topics' own calls.
func twin(t *testing.T, d *simfs.Disk, id, limit int, now int64) (*topic.Topic, *topic.Topic) {
	t.Helper()
	var both [2]*topic.Topic
	for i := range both {
		p, e := topic.Open(d, id+i, limit, 0, now)
		if e == api.ErrTopic {
			p, e = topic.Create(d, id+i, limit, 0, now)
		}
		want(t, "a twin's topic", e, api.OK)
		both[i] = p
	}
	if _, lives, _ := both[1].Get("source"); !lives {
		both[1].Append(now, api.Write{Key: "source", Value: "t"})
		both[1].Commit()
	}
	return both[0], both[1]
}

// 22.1: what Open does to the disk, with the copy there or not, and the notes or not.
func TestOpenOfWhatIsThere(t *testing.T) {
	for what, c := range map[string]struct {
		copy, notes []string
		position    int64
		snap        bool // it has to begin with a snapshot
		place       string
	}{
		"nothing":                          {},
		"an empty copy":                    {copy: []string{}},
		"a copy":                           {copy: []string{"a", "1"}, snap: true},
		"a copy of a tombstone":            {copy: []string{"a", "-"}, snap: true},
		"notes":                            {notes: []string{"source", "t", "at", placed(4, 9)}},
		"empty notes":                      {notes: []string{}},
		"notes and an empty copy":          {copy: []string{}, notes: []string{"source", "t", "at", placed(4, 9)}, position: 9},
		"both":                             {copy: []string{"a", "1"}, notes: []string{"source", "t", "at", placed(4, 9)}, position: 9},
		"both, without a source":           {copy: []string{"a", "1"}, notes: []string{"at", placed(4, 9)}, position: 9},
		"both, a source of a tombstone":    {copy: []string{"a", "1"}, notes: []string{"source", "u", "source", "-", "at", placed(4, 9)}, position: 9},
		"both, without a place":            {copy: []string{"a", "1"}, notes: []string{"source", "t"}, snap: true},
		"both, a place of a tombstone":     {copy: []string{"a", "1"}, notes: []string{"at", placed(4, 9), "at", "-"}, snap: true},
		"both, an earlier place":           {copy: []string{"a", "1"}, notes: []string{"at", placed(4, 99), "at", placed(4, 7)}, position: 7},
		"both, an earlier source":          {copy: []string{"a", "1"}, notes: []string{"source", "u", "source", "t", "at", placed(4, 9)}, position: 9},
		"both, the place 0":                {copy: []string{"a", "1"}, notes: []string{"at", placed(4, 0)}, snap: true},
		"an empty copy, the place 0":       {copy: []string{}, notes: []string{"at", placed(4, 0)}},
		"both, no number is known":         {copy: []string{"a", "1"}, notes: []string{"at", placed(0, 9)}, position: 9},
		"both, other notes and other keys": {copy: []string{"a", "1"}, notes: []string{"x", "y", "At", "no", "source", "t", "at", placed(4, 9)}, position: 9},
	} {
		d, other := loaded(t, nil), loaded(t, nil)
		for _, one := range []*simfs.Disk{d, other} {
			if c.copy != nil {
				writes(t, one, copyId, c.copy...)
			}
			if c.notes != nil {
				noted(t, one, c.notes...)
			}
		}
		k := &desk{t: t, d: d, m: open(t, what, d, "t", copyId, 300, 7, api.OK), limit: 300}
		copied, _ := twin(t, other, copyId, 300, 7)
		alike(t, what, d, other)
		k.wantState(what, api.MirIdle, c.position, copied.State().Live, 0)
		want(t, what+": the source is noted", noteOf(t, d.Crash(nil), "source"), "t")
		unchanged(t, what+": Open once more", d, func() { open(t, what, d, "t", copyId, 300, 7, api.OK) })
		if c.snap {
			k.snaps(what, 1)
		} else {
			k.tails(what, 1, c.position)
		}
	}
}

// 22.1: which number is committed is seen by which one is another topic's.
func TestOpenKnowsTheNumber(t *testing.T) {
	for _, number := range []int64{0, 1, 5, lastId} {
		for _, answer := range []int64{1, 5, lastId} {
			d := loaded(t, nil)
			writes(t, d, copyId, "a", "1")
			noted(t, d, "source", "t", "at", placed(number, 9))
			k := over(t, d, usual)
			k.tails("number", 1, 9)
			k.hears("number", api.OK, subscribed(1, 9, answer))
			if number == 0 || number == answer {
				k.wantState("number", api.MirTail, 9, 1, 0)
				k.asksNothing("number")
			} else {
				k.wantState("number", api.MirSnap, 9, 1, 0)
				k.snaps("number", 2)
			}
		}
	}
}

// 22.1: where the copy was created, nothing is known, though the notes tell a number.
func TestOpenWithoutItsCopy(t *testing.T) {
	d := loaded(t, nil)
	noted(t, d, "source", "t", "at", placed(4, 9))
	k := over(t, d, usual)
	k.tails("a new copy", 1, 0)
	k.hears("a new copy", api.OK, subscribed(1, 0, 7), delivered(1, 1, value(0, "a", "1")))
	k.wantState("a new copy", api.MirTail, 1, 0, 1)
	k.holds("a new copy", "a=1")
	k.wantNotes("a new copy", 7, 1)
}

// A place that may not be, and one that may.
func TestOpenOfEachPlace(t *testing.T) {
	long := func(v uint64) string { // one group more than it needs
		b := binary.AppendUvarint(nil, v)
		b[len(b)-1] |= 0x80
		return string(append(b, 0))
	}
	u := func(list ...uint64) string {
		var b []byte
		for _, v := range list {
			b = binary.AppendUvarint(b, v)
		}
		return string(b)
	}
	for text, position := range map[string]int64{
		u(0, 0): 0, u(1, 0): 0, u(lastId, 0): 0, u(0, 1): 1, u(0, 127): 127, u(0, 128): 128, u(0, maxOffset-1): maxOffset - 1, u(0, maxOffset): maxOffset, u(lastId, maxOffset): maxOffset, u(5, 300): 300,
		u(lastId+1, 0): -1, u(0, maxOffset+1): -1, u(lastId+1, maxOffset): -1, u(lastId, maxOffset+1): -1, u(math.MaxUint64, 0): -1, u(0, math.MaxUint64): -1, u(1<<32, 0): -1, u(1<<63, 0): -1, u(0, 1<<63): -1, u(1<<32+5, 7): -1,
		"": -1, u(0): -1, u(5): -1, u(300): -1, u(0, 0, 0): -1, u(5, 7, 0): -1, u(5, 7) + "x": -1, u(5) + "\x80": -1, "\x80": -1, "\xff\xff": -1,
		long(5) + u(7): -1, u(5) + long(7): -1, long(0) + u(0): -1, u(0) + long(0): -1, u(5) + long(300): -1, "5 7": -1, "4": -1,
	} {
		for _, held := range [][]string{nil, {"a", "1"}} {
			d := loaded(t, nil)
			if held != nil {
				writes(t, d, copyId, held...)
			}
			noted(t, d, "source", "t", "at", text)
			what := fmt.Sprintf("the place %x", text)
			if position < 0 {
				open(t, what, d, "t", copyId, usual, 0, api.ErrMirror)
				continue
			}
			wanted := position
			if held == nil {
				wanted = 0 // the copy had to be created
			}
			m := open(t, what, d, "t", copyId, usual, 0, api.OK)
			want(t, what, m.State().Position, wanted)
		}
	}
}

// 22.1: of another source, with all else right and wrong; nothing is noted then.
func TestOpenOfAnotherSource(t *testing.T) {
	for _, name := range []string{"u", "", "T", "tt", "t\x00", " t", strings.Repeat("t", 300)} {
		for _, at := range []string{placed(4, 9), "wrong", "-"} {
			d := loaded(t, nil)
			writes(t, d, copyId, "a", "1")
			noted(t, d, "source", name, "at", at)
			unchanged(t, name, d, func() { open(t, name, d, "t", copyId, usual, 0, api.ErrMirror) })
		}
	}
	d := loaded(t, nil)
	writes(t, d, copyId)
	noted(t, d, "at", "wrong")
	unchanged(t, "a wrong place without a source", d, func() { open(t, "a wrong place without a source", d, "t", copyId, usual, 0, api.ErrMirror) })
	noted(t, d, "at", placed(1, 2))
	open(t, "a right one", d, "u", copyId, usual, 0, api.OK)
	open(t, "of the one that came first", d, "t", copyId, usual, 0, api.ErrMirror)
	open(t, "the notes are another mirror's copy", d, "t", notesId, usual, 0, api.OK)
}

// 22.1: damaged topics are created anew; of a damaged copy nothing is known.
func TestOpenOfDamagedTopics(t *testing.T) {
	for _, name := range []string{"t3.man", "t3.1.seg", "t4.man", "t4.1.seg"} {
		k := fresh(t)
		k.tails("ahead", 1, 0)
		k.hears("ahead", api.OK, subscribed(1, 0, 4), delivered(1, 2, value(0, "a", "1")))
		k.holds("ahead", "a=1")
		d := loaded(t, k.d.Image())
		want(t, "Truncate", d.Truncate(name, 3), api.OK)
		k = over(t, d, usual)
		if name[1] == '3' {
			k.wantState(name, api.MirIdle, 0, 0, 0)
			k.tails(name, 1, 0)
		} else {
			k.wantState(name, api.MirIdle, 0, 1, 0)
			k.snaps(name, 1)
		}
		want(t, name+": the source", noteOf(t, d.Crash(nil), "source"), "t")
	}
}

// 22.1: where the source can't be noted, that is the answer.
func TestOpenThatCannotNote(t *testing.T) {
	for _, alike := range []bool{false, true} {
		d := loaded(t, nil)
		p, e := topic.Create(d, notesId, 256, 0, 0)
		want(t, "Create", e, api.OK)
		for _, r := range full(64, alike) {
			_, _, e := p.Append(0, api.Write{Key: r.Key, Value: r.Value})
			want(t, "Append", e, api.OK)
		}
		want(t, "Commit", p.Commit(), api.OK)
		wanted := api.ErrLive
		if alike {
			wanted = api.ErrSegs
		}
		open(t, "no segments", d, "t", copyId, 256, 0, wanted)
		open(t, "a longer segment", d, "t", copyId, 600, 0, api.OK)
		open(t, "noted", d, "t", copyId, 256, 0, api.OK)
	}
}

// 22.1: with too little room at every step; and Open again, when there is room.
func TestOpenWithTooLittleRoom(t *testing.T) {
	whole := fresh(t).d
	quota, refusals := 0, 0
	for {
		d, _ := simfs.New(quota)
		m, e := mirror.Open(d, "t", copyId, usual, 0)
		want(t, "a mirror", m != nil, e == api.OK)
		if e == api.OK {
			break
		}
		want(t, fmt.Sprint("Open with ", quota, " bytes"), e, api.ErrSpace)
		d.SetQuota(wide)
		k := over(t, d, usual)
		want(t, "what it holds", noteOf(t, d.Crash(nil), "source"), "t")
		want(t, "as many files", len(d.Image()), len(whole.Image()))
		k.tails("again", 1, 0)
		quota++
		refusals++
	}
	want(t, "the room that is needed", quota, whole.Used()+api.Reserve)
	want(t, "refusals", refusals, quota)
}

// 22.1: the same, where the notes are there already: the copy's refusal is the answer.
func TestOpenWithTooLittleRoomForTheCopy(t *testing.T) {
	whole := loaded(t, nil)
	noted(t, whole, "source", "t", "at", placed(4, 9))
	image := whole.Image()
	open(t, "whole", whole, "t", copyId, usual, 0, api.OK)
	for quota := range 300 {
		d := loaded(t, image)
		d.SetQuota(quota)
		m, e := mirror.Open(d, "t", copyId, usual, 0)
		want(t, fmt.Sprint("a mirror with ", quota, " bytes"), m != nil, e == api.OK)
		want(t, fmt.Sprint("Open with ", quota, " bytes"), e == api.OK || e == api.ErrSpace, true)
		want(t, fmt.Sprint("Open with ", quota, " bytes: OK"), e == api.OK, quota >= whole.Used())
	}
}

// broken is a disk with a mirror's topics, of which one was rolled when the power went: its last segment is sealed.
func broken(t *testing.T, id int) []api.File {
	t.Helper()
	d := loaded(t, nil)
	writes(t, d, copyId, "a", "1")
	noted(t, d, "source", "t", "at", placed(4, 9))
	p, e := topic.Open(d, id, usual, 0, 0)
	want(t, "Open", e, api.OK)
	d.Fuse(2)
	want(t, "Roll", p.Roll(), api.ErrDead)
	return d.Image()
}

// 22.1: a roll that was broken off is done to its end, or is not; where the power goes with that, Open answers so, whatever topic.Open does.
func TestOpenBehindABrokenRoll(t *testing.T) {
	answers := map[api.Errno]int{}
	for _, id := range []int{copyId, notesId} {
		image := broken(t, id)
		used := loaded(t, image).Used()
		for quota := used; quota < used+200; quota += 3 {
			for fuse := range 16 {
				d := loaded(t, image)
				d.SetQuota(quota)
				d.Fuse(fuse)
				m, e := mirror.Open(d, "t", copyId, usual, 0)
				want(t, "a mirror", m != nil, e == api.OK)
				want(t, fmt.Sprint("Open of ", id, " with ", quota, " bytes, with power for ", fuse), e == api.ErrDead, d.Dead())
				want(t, "no other refusal", e == api.ErrDead || e == api.OK, true)
				answers[e]++
			}
		}
	}
	want(t, "both answers", answers[api.OK] > 100 && answers[api.ErrDead] > 100, true)
}

// 22.1: as many files as may be.
func TestOpenWithTooManyFiles(t *testing.T) {
	var image []api.File
	for i := range api.MaxFiles {
		image = append(image, api.File{Name: fmt.Sprintf("f%06d", i)})
	}
	for _, left := range []int{0, 1, 2, 3, 4, 5} {
		d := loaded(t, image[:len(image)-left])
		wanted := api.ErrFiles
		if left >= 4 {
			wanted = api.OK
		}
		open(t, fmt.Sprint(left, " files left"), d, "t", copyId, usual, 0, wanted)
	}
}

// 22.1: the power goes off at each of its operations; and Open again behind that.
func TestOpenWithLittlePower(t *testing.T) {
	for what, begin := range map[string]func() *simfs.Disk{
		"an empty disk": func() *simfs.Disk { return loaded(t, nil) },
		"an old copy": func() *simfs.Disk {
			d := loaded(t, nil)
			writes(t, d, copyId, "a", "1")
			return loaded(t, d.Image())
		},
		"old notes": func() *simfs.Disk {
			d := loaded(t, nil)
			noted(t, d, "at", placed(0, 0))
			return loaded(t, d.Image())
		},
	} {
		whole := begin()
		open(t, what, whole, "t", copyId, usual, 0, api.OK)
		for fuse := range whole.Ops() + 1 {
			d := begin()
			d.Fuse(fuse)
			wanted := api.ErrDead
			if fuse == whole.Ops() {
				wanted = api.OK
			}
			open(t, fmt.Sprint(what, " with power for ", fuse), d, "t", copyId, usual, 0, wanted)
			for _, image := range probe.Leavings(d) {
				k := over(t, loaded(t, image), usual)
				want(t, what+": the source", noteOf(t, k.d.Crash(nil), "source"), "t")
				held := 0
				if what == "an old copy" {
					held = 1
					k.snaps(what, 1)
				} else {
					k.tails(what, 1, 0)
				}
				want(t, what+": Keys", k.m.State().Keys, held)
			}
		}
	}
}
