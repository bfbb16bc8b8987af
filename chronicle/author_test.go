package chronicle_test

import (
	"fmt"
	"math"
	"slices"
	"strings"

	"chronicle/api"
	"chronicle/probe"
)

// author writes scripts that look like none in particular.
type author struct {
	dice   []uint64
	plain  bool // each request is said in words, and behind each crash is looked at what is left
	lastId uint32
	half   map[int][]byte // what is left of bytes that were said in part, by labels
	seqs   map[int64]int64
}

func newAuthor(seed uint64) *author {
	return &author{dice: probe.Noise(seed, 40000), half: map[int][]byte{}, seqs: map[int64]int64{}}
}

// roll is some number below n.
func (a *author) roll(n int) int {
	x := a.dice[0]
	a.dice = a.dice[1:]
	return int(x >> 20 % uint64(n))
}

// of is one of some things.
func of[T any](a *author, list ...T) T { return list[a.roll(len(list))] }

func (a *author) label() int {
	if a.roll(20) == 0 {
		return of(a, 4, 0, 999)
	}
	return of(a, 1, 1, 1, 2, 2, 3)
}

// script is n lines, and those by which it begins.
func (a *author) script(n int) []string {
	lines := []string{"open 1", "open 2", "open 3"}
	for i := range 3 {
		lines = append(lines, say(1, a.numbered(api.Request{Op: api.OpCreate, Topic: fmt.Sprint("t", i)})))
	}
	lines = append(lines, "steps 0 0 0")
	for len(lines) < n {
		lines = append(lines, a.lines()...)
	}
	return lines
}

// lines is what comes next.
func (a *author) lines() []string {
	switch what := a.roll(200); {
	case what < 92:
		return a.say(a.label())
	case what < 104 && !a.plain:
		return []string{a.raw(a.label())}
	case what < 138:
		return []string{picked(api.VSteps, a.picks(9)...)}
	case what < 162:
		return []string{fmt.Sprintf("take %d %d", a.label(), of(a, 0, 1, 9, 40, 300, 5000, maxQuota))}
	case what < 170:
		return []string{fmt.Sprint("tick ", of(a, 0, 1, 3, 20, 150))}
	case what < 174:
		return []string{"check"}
	case what < 178:
		return []string{"state"}
	case what < 181:
		return []string{a.open()}
	case what < 183:
		return []string{fmt.Sprint("shut ", a.label())}
	case what == 183:
		return []string{fmt.Sprint("fuse ", of(a, -1, maxQuota, 200))}
	case what == 184:
		return a.crash()
	case what == 185:
		return a.lose()
	case what == 186:
		if a.roll(5) == 0 {
			return slices.Repeat([]string{a.open()}, maxConns-2)
		}
		fallthrough
	case what < 193:
		return []string{""}
	}
	return []string{of(a, "#", "# a remark", "#open 1", "#\r", "# é\xff")}
}

// lose lets the power go soon, and the store be opened anew somewhat later.
func (a *author) lose() []string {
	lines := []string{fmt.Sprint("fuse ", a.roll(14))}
	for range 4 + a.roll(16) {
		lines = append(lines, a.lines()...)
	}
	return append(lines, a.crash()...)
}

// say is a request, and ahead of it the bytes that are left of what was said in part.
func (a *author) say(label int) []string {
	lines := []string{say(label, a.numbered(a.request()))}
	if len(a.half[label]) > 0 && a.roll(30) > 0 {
		lines = []string{raw(label, a.half[label]), lines[0]}
		delete(a.half, label)
	}
	return lines
}

func (a *author) open() string {
	label := a.label()
	delete(a.half, label)
	return fmt.Sprint("open ", label)
}

// crash lets the power go, once or twice, and opens some connections.
func (a *author) crash() []string {
	lines := []string{picked(api.VCrash, a.picks(20)...)}
	if a.roll(4) == 0 {
		lines = append(lines, picked(api.VCrash, a.picks(20)...), "check")
	}
	if a.plain {
		lines = append(lines, "check", "state")
	}
	for _, line := range []string{"open 1", "open 2", "open 3"} {
		if a.roll(5) > 0 {
			lines = append(lines, line)
		}
	}
	clear(a.half)
	if a.plain {
		lines = append(lines, "open 1")
	}
	return lines
}

func (a *author) picks(most int) []int {
	list := make([]int, a.roll(most+1))
	for i := range list {
		list[i] = of(a, 0, 0, 0, 0, 1, 2, 2, 3, 3, 5, 17, -1, -7, 100, math.MaxInt, math.MinInt)
	}
	return list
}

// raw is bytes of a stream: a part of what was begun, or of some frames, of which one may be spoilt, or nothing that was ever meant.
func (a *author) raw(label int) string {
	if a.roll(150) == 0 {
		return raw(label, []byte(probe.Text(uint64(a.roll(999)), a.roll(20))))
	}
	b := a.half[label]
	for range a.roll(4) {
		f := frame(a.numbered(a.request()))
		if a.roll(20) == 0 {
			f[5+a.roll(len(f)-5)] ^= 4
		}
		b = append(b, f...)
	}
	n := a.roll(len(b) + 1)
	a.half[label] = b[n:]
	return raw(label, b[:n])
}

func (a *author) numbered(r api.Request) api.Request {
	a.lastId++
	r.Id = a.lastId
	return r
}

func (a *author) topic() string {
	if a.roll(20) == 0 {
		return of(a, "none", "Bad", "")
	}
	return of(a, "t0", "t0", "t0", "t0", "t1", "t1", "t2", "t3")
}

func (a *author) key() string { return of(a, "k0", "k1", "k2", "k3", "a b", "\xff") }

func (a *author) request() api.Request {
	topic, key := a.topic(), a.key()
	switch what := a.roll(40); {
	case what < 2:
		return api.Request{Op: api.OpPing}
	case what < 4:
		return api.Request{Op: api.OpCreate, Topic: topic, Number: int64(of(a, 0, 0, 5, 1000))}
	case what == 4:
		return api.Request{Op: api.OpDrop, Topic: of(a, "t1", "t2", "t3", "t3", "none")}
	case what == 5:
		return api.Request{Op: api.OpList, Key: of(a, "", "t", "t1", "\n")}
	case what < 18:
		pid, seq := a.produced()
		return api.Request{Op: api.OpPut, Topic: topic, Key: key, Value: bulk(a.roll(99), of(a, 0, 1, 30, 120, 200)), Pid: pid, Seq: seq}
	case what < 22:
		pid, seq := a.produced()
		return api.Request{Op: api.OpDelete, Topic: topic, Key: key, Pid: pid, Seq: seq}
	case what < 24:
		return api.Request{Op: api.OpGet, Topic: topic, Key: key}
	case what < 26:
		return api.Request{Op: api.OpReplay, Topic: topic, Offset: int64(a.roll(8))}
	case what < 28:
		return api.Request{Op: api.OpSnapshot, Topic: topic, Key: of(a, "", "k", "k1")}
	case what < 31:
		return api.Request{Op: api.OpSubscribe, Topic: topic, Offset: int64(a.roll(8))}
	case what == 31:
		return api.Request{Op: api.OpUnsubscribe, Number: max(int64(a.lastId)-int64(a.roll(30)), 0)}
	case what < 34:
		return api.Request{Op: api.OpJoin, Key: of(a, "g", "g", "h", "Bad")}
	case what < 37:
		return api.Request{Op: api.OpCommit, Topic: topic, Key: of(a, "g", "g", "h"), Offset: int64(a.roll(4)), Number: int64(of(a, 1, 1, 2, 2, 3, 4, 5, 6))}
	case what == 37:
		return api.Request{Op: api.OpPosition, Topic: topic, Key: of(a, "g", "h")}
	}
	return api.Request{Op: api.OpStat, Topic: topic}
}

// produced is a producer's next number, or one that it had, or none.
func (a *author) produced() (int64, int64) {
	pid := int64(max(a.roll(5)-2, 0))
	if pid == 0 {
		return 0, 0
	}
	a.seqs[pid] = max(a.seqs[pid]+int64(a.roll(4)-1), 1)
	return pid, a.seqs[pid]
}

// broken is lines of which one is changed at one byte, or has one more, or one less.
func (a *author) broken(lines []string) []string {
	lines = append([]string{}, lines...)
	i := a.roll(len(lines))
	at := a.roll(len(lines[i]) + 1)
	some := string([]byte{byte(a.roll(256))})
	switch {
	case a.roll(3) == 0:
		lines[i] = lines[i][:at] + some + lines[i][at:]
	case at < len(lines[i]):
		lines[i] = lines[i][:at] + strings.Repeat(some, a.roll(2)) + lines[i][at+1:]
	}
	return lines
}
