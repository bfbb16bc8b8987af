package shell_test

import (
	"math"
	"testing"

	"chronicle/api"
	"chronicle/probe"
	"chronicle/shell"
)

// 23.1 to 23.3: what follows of them.

// dice is a row of numbers that look like none in particular, taken one by one.
type dice struct{ row []uint64 }

func newDice(seed uint64) *dice { return &dice{probe.Noise(seed, 400)} }

func (d *dice) below(n int) int {
	x := d.row[0]
	d.row = append(d.row[1:], x*2685821657736338717+1)
	return int(x >> 20 % uint64(n))
}

// one is one of a list.
func one[T any](d *dice, list ...T) T { return list[d.below(len(list))] }

func (d *dice) text(most int) string {
	switch d.below(6) {
	case 0:
		return ""
	case 1:
		return one(d, texts()...)
	case 2:
		return probe.Text(uint64(d.below(1<<20)), d.below(most+1))
	}
	signs := one(d, "ab", "aZ09._-", `a "`, `\"x0`, "\x00\x1f\x7f ~", "é日a")
	var b []byte
	for range d.below(min(most, 12) + 1) {
		b = append(b, signs[d.below(len(signs))])
	}
	return string(b)
}

func (d *dice) number() int64 {
	return one(d, 0, 1, 9, 10, 127, 999, 1000, int64(d.below(1<<30)), maxQuota, maxTime, math.MaxInt64, 0, 1, -1, math.MinInt64)
}

// request is any request: more often than not it may be said.
func (d *dice) request() api.Request {
	r := api.Request{Id: one(d, 0, 1, 7, uint32(d.below(1<<30)), lastId), Op: 1 + d.below(15)}
	if d.below(40) == 0 {
		r.Op = one(d, 0, 16, deliverOp, -1)
	}
	for _, field := range requestFields() {
		if !has(operationUsage()[r.Op], field) && d.below(60) > 0 {
			continue
		}
		if n := most(field); n > 0 {
			r = with(r, field, d.text(n))
		} else if n := d.number(); n >= 0 || d.below(5) == 0 {
			r = with(r, field, n)
		}
	}
	return r
}

// command is any command: more often than not it may be.
func (d *dice) command() api.Command {
	c := api.Command{Verb: one(d, d.below(11), api.VSay)}
	if d.below(60) == 0 {
		c.Verb = one(d, -1, 11)
	}
	asks := func(field string) bool { return has(usage()[c.Verb], field) || d.below(50) == 0 }
	if asks("Conn") {
		c.Conn = one(d, 0, 1, 999, d.below(1000), d.below(1000), d.below(1002)-1)
	}
	if asks("Request") {
		c.Request = d.request()
	}
	if asks("Raw") {
		c.Raw = []byte(probe.Text(uint64(d.below(1<<20)), one(d, 0, 1, 2, d.below(40), d.below(2060))))
	}
	if asks("N") {
		c.N = one(d, -1, 0, 1, int64(d.below(1<<30)), maxQuota, maxTime, d.number())
	}
	if asks("Picks") {
		for range one(d, 0, 1, 2, d.below(20), d.below(600)) {
			c.Picks = append(c.Picks, one(d, 0, -1, d.below(10), d.below(1<<40), -d.below(1<<40), math.MinInt, math.MaxInt))
		}
	}
	return c
}

func TestDrawnCommands(t *testing.T) {
	right, wrong := 0, 0
	for seed := range uint64(20000) {
		if wantPrinted(t, newDice(seed).command()) {
			right++
		} else {
			wrong++
		}
	}
	if right < 12000 || wrong < 2000 {
		t.Errorf("%d have lines, %d have none: too few", right, wrong)
	}
}

// changed is a line with one byte changed, left out or laid in, or two bytes changed with one another, or a piece of another line laid in.
func changed(d *dice, line, other string) string {
	signs := "019- \"\\xafptX.+~\x00\x1f\x7f\xff\xc3"
	c := one(d, signs[d.below(len(signs))], byte(d.below(256)))
	at := d.below(len(line) + 1)
	if d.below(2) == 0 {
		at = min(at, d.below(12))
	}
	from := d.below(len(other) + 1)
	piece := other[from : from+d.below(len(other)-from+1)]
	if at == len(line) {
		return line + one(d, string([]byte{c}), piece)
	}
	switch d.below(7) {
	case 0, 1:
		return line[:at] + string([]byte{c}) + line[at+1:]
	case 2:
		return line[:at] + line[at+1:]
	case 3:
		return line[:at] + string([]byte{c}) + line[at:]
	case 4:
		return line[:at] + string([]byte{line[at] ^ 1<<d.below(8)}) + line[at+1:]
	case 5:
		return line[:at]
	}
	return line[:at] + piece + line[at:]
}

// drawnLine is the line of a command that is drawn and has one.
func drawnLine(d *dice) string {
	for {
		if line, there := slowPrint(d.command()); there {
			return line
		}
	}
}

func TestChangedLines(t *testing.T) {
	taken, refused := 0, 0
	for seed := range uint64(4000) {
		d := newDice(seed)
		line, other := drawnLine(d), drawnLine(d)
		for range 25 {
			again := changed(d, line, other)
			if d.below(4) == 0 {
				again = changed(d, again, other)
			}
			if wantParsed(t, again) {
				taken++
			} else {
				refused++
			}
		}
	}
	if taken < 5000 || refused < 50000 {
		t.Errorf("%d are taken, %d refused: too few", taken, refused)
	}
}

// Each byte of a line changed, left out and laid in.
func TestEachByteChanged(t *testing.T) {
	for _, line := range []string{"open 12", "shut 999", `say 1 7 put t "a b" "\x00\\\"" 0 10`, "say 0 4294967295 commit t g 5 0", "say 9 0 ping", "raw 1 c50f", "raw 1 -", "tick 10", "steps 0 -17", "take 1 99", "fuse -1", "crash -1 2", "check", "state"} {
		want(t, line, wantParsed(t, line), true)
		for at := range len(line) + 1 {
			for c := range 256 {
				laid := string([]byte{byte(c)})
				wantParsed(t, line[:at]+laid+line[at:])
				if at < len(line) {
					wantParsed(t, line[:at]+laid+line[at+1:])
				}
			}
			if at < len(line) {
				wantParsed(t, line[:at]+line[at+1:])
			}
			wantParsed(t, line[:at])
			wantParsed(t, line[at:])
		}
	}
}

// response is any response, right or not.
func (d *dice) response() api.Response {
	r := api.Response{
		Id:   one(d, 0, 1, 7, uint32(d.below(1<<30)), lastId),
		Op:   one(d, 1+d.below(15), deliverOp, 0, 16, 63, 65, -1, math.MinInt, math.MaxInt),
		Code: one(d, d.below(12), d.below(12), 12, -1, math.MinInt, math.MaxInt), Offset: d.number(), Number: d.number(), More: d.below(2) == 0,
	}
	for range one(d, 0, 0, 1, 2, 17) {
		r.Names = append(r.Names, d.text(30))
	}
	for range one(d, 0, 0, 1, 2, 17) {
		r.Records = append(r.Records, d.record())
	}
	return r
}

func (d *dice) record() api.Record {
	return api.Record{Kind: one(d, 1, 2, 1, 2, 0, 3, -1, math.MaxInt), Offset: d.number(), Time: d.number(), Pid: d.number(), Seq: d.number(), Key: d.text(70), Value: d.text(100)}
}

// Two responses that are not the same have lines that are not: each line tells its response, and no other one has it.
func TestDrawnResponses(t *testing.T) {
	told := map[string]api.Response{}
	for seed := range uint64(6000) {
		r := newDice(seed).response()
		line := wantShown(t, r)
		if other, there := told[line]; there && !sameResponse(other, r) {
			t.Errorf("%s and %s are both told by %s", brief(other), brief(r), brief(line))
		}
		told[line] = r
	}
}

// A response with one thing changed has another line.
func TestResponsesThatDiffer(t *testing.T) {
	for seed := range uint64(300) {
		d := newDice(seed)
		r := d.response()
		others := []api.Response{with(r, "Id", r.Id+1), with(r, "Op", r.Op+1), with(r, "Code", r.Code+1), with(r, "Offset", r.Offset+1), with(r, "Number", r.Number+1), with(r, "More", !r.More), with(r, "Offset", r.Number), with(r, "Op", -r.Op)}
		others = append(others, with(r, "Names", append([]string{d.text(5)}, r.Names...)), with(r, "Records", append([]api.Record{d.record()}, r.Records...)))
		for i := range r.Records {
			for _, field := range []string{"Kind", "Offset", "Time", "Pid", "Seq"} {
				recs := append([]api.Record{}, r.Records...)
				recs[i] = with(recs[i], field, d.number())
				others = append(others, with(r, "Records", recs))
			}
			recs := append([]api.Record{}, r.Records...)
			recs[i].Key, recs[i].Value = recs[i].Value, recs[i].Key
			others = append(others, with(r, "Records", recs))
		}
		for i, name := range r.Names {
			names := append([]string{}, r.Names...)
			names[i] = name + one(d, " ", `"`, "a", "\x00")
			others = append(others, with(r, "Names", names), with(r, "Names", r.Names[i+1:]))
		}
		line := shell.Show(r)
		for _, other := range others {
			want(t, brief(other)+" has the line of "+brief(r), wantShown(t, other) == line, sameResponse(other, r))
		}
	}
}
