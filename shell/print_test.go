package shell_test

import (
	"fmt"
	"math"
	"reflect"
	"slices"
	"strings"
	"testing"

	"chronicle/api"
	"chronicle/probe"
	"chronicle/shell"
)

// 23.1

// The chapter's examples.
func TestExamples(t *testing.T) {
	for line, c := range map[string]api.Command{
		"open 1":                      {Verb: api.VOpen, Conn: 1},
		`say 1 7 put t "a b" "" 0 0`:  say(1, api.Request{Id: 7, Op: api.OpPut, Topic: "t", Key: "a b"}),
		"say 2 0 create t 50":         say(2, api.Request{Op: api.OpCreate, Topic: "t", Number: 50}),
		"raw 1 c500":                  {Verb: api.VRaw, Conn: 1, Raw: []byte{197, 0}},
		"raw 1 -":                     {Verb: api.VRaw, Conn: 1},
		"steps 0 -1 7":                {Verb: api.VSteps, Picks: []int{0, -1, 7}},
		"crash":                       {Verb: api.VCrash},
		"fuse -1":                     {Verb: api.VFuse, N: -1},
		"shut 0":                      {Verb: api.VShut},
		"tick 1125899906842624":       {Verb: api.VTick, N: api.MaxTime},
		"take 999 1073741824":         {Verb: api.VTake, Conn: 999, N: api.MaxQuota},
		"check":                       {Verb: api.VCheck},
		"state":                       {Verb: api.VState},
		`say 0 1 list "\"\\\x00\xff"`: say(0, api.Request{Id: 1, Op: api.OpList, Key: "\"\\\x00\xff"}),
	} {
		wantLine(t, c, line)
	}
	for _, line := range []string{"", "open", "open 01", "open  1", "open 1 ", "open 1000", "say 1 7 put t a", "tick -1", "steps 0 x", "Open 1", `say 1 7 get t "a"`} {
		wantNoCommand(t, line)
	}
}

func TestSamples(t *testing.T) {
	for _, c := range samples() {
		if !wantPrinted(t, c) {
			t.Errorf("%s has no line", brief(c))
		}
	}
}

// The words of all operations, and the order of their fields.
func TestOperationsLines(t *testing.T) {
	all := func(op int) api.Command {
		r := api.Request{Id: 9, Op: op}
		for i, field := range requestFields() {
			if !has(operationUsage()[op], field) {
				continue
			}
			if most(field) > 0 {
				r = with(r, field, field)
			} else {
				r = with(r, field, 100+i)
			}
		}
		return say(8, r)
	}
	for op, line := range map[int]string{
		api.OpPing:        "say 8 9 ping",
		api.OpCreate:      "say 8 9 create Topic 104",
		api.OpDrop:        "say 8 9 drop Topic",
		api.OpList:        "say 8 9 list Key",
		api.OpPut:         "say 8 9 put Topic Key Value 105 106",
		api.OpDelete:      "say 8 9 delete Topic Key 105 106",
		api.OpGet:         "say 8 9 get Topic Key",
		api.OpReplay:      "say 8 9 replay Topic 103",
		api.OpSnapshot:    "say 8 9 snapshot Topic Key",
		api.OpSubscribe:   "say 8 9 subscribe Topic 103",
		api.OpUnsubscribe: "say 8 9 unsubscribe 104",
		api.OpJoin:        "say 8 9 join Key",
		api.OpCommit:      "say 8 9 commit Topic Key 103 104",
		api.OpPosition:    "say 8 9 position Topic Key",
		api.OpStat:        "say 8 9 stat Topic",
	} {
		wantLine(t, all(op), line)
	}
}

func TestVerbsThatAreNone(t *testing.T) {
	for _, verb := range []int{-1, 11, 12, 64, -11, math.MinInt, math.MaxInt} {
		wantNoLine(t, api.Command{Verb: verb})
		for _, c := range samples() {
			c.Verb = verb
			wantNoLine(t, c)
		}
	}
}

func TestLabels(t *testing.T) {
	for verb := range verbWords() {
		c := least(verb)
		for conn, right := range map[int]bool{-1: false, 0: true, 1: true, 999: true, 1000: false, math.MinInt: false, math.MaxInt: false, 1 << 32: false, -1 << 32: false} {
			c.Conn = conn
			want(t, brief(c), wantPrinted(t, c), right && (conn == 0 || has(usage()[verb], "Conn")))
		}
	}
}

func TestNumbers(t *testing.T) {
	for verb := range verbWords() {
		c := least(verb)
		b := bounds()[verb]
		for _, n := range []int64{math.MinInt64, -1 << 32, -2, -1, 0, 1, maxQuota - 1, maxQuota, maxQuota + 1, 1 << 32, maxTime - 1, maxTime, maxTime + 1, math.MaxInt64} {
			c.N = n
			want(t, brief(c), wantPrinted(t, c), b[0] <= n && n <= b[1])
		}
	}
}

// A field that the verb does not use: each of them alone, and each of a request's alone.
func TestFieldsThatAreNotUsed(t *testing.T) {
	others := []api.Command{{Conn: 1}, {Conn: -1}, {Raw: []byte{0}}, {Raw: []byte("raw")}, {N: 1}, {N: -1}, {N: math.MaxInt64}, {Picks: []int{0}}, {Picks: []int{1, 2}}}
	requests := []api.Request{{Id: 1}, {Id: lastId}, {Op: api.OpPing}, {Op: -1}, {Op: 16}, {Topic: "t"}, {Key: "k"}, {Value: "v"}, {Topic: "\x00"}, {Offset: 1}, {Offset: -1}, {Number: 1}, {Number: -1}, {Pid: 1}, {Pid: -1}, {Seq: 1}, {Seq: -1}}
	for _, r := range requests {
		others = append(others, api.Command{Request: r})
	}
	tried := 0
	for _, c := range samples() {
		for _, other := range others {
			for _, field := range commandFields() {
				v := reflect.ValueOf(other).FieldByName(field)
				if has(usage()[c.Verb], field) || v.IsZero() {
					continue
				}
				wantNoLine(t, with(c, field, v.Interface()))
				tried++
			}
		}
	}
	want(t, "some are tried", tried > 5000, true)
}

func TestEmptyListsAreNone(t *testing.T) {
	for _, c := range samples() {
		line, _ := slowPrint(c)
		if len(c.Raw) == 0 {
			c.Raw = []byte{}
		}
		if len(c.Picks) == 0 {
			c.Picks = make([]int, 0, 5)
		}
		wantLine(t, c, line)
	}
}

// A say: each operation, and each field, whether it uses it or not.
func TestRequestsThatMayNotBeSaid(t *testing.T) {
	for _, op := range []int{math.MinInt, -1, 0, 16, 63, deliverOp, 65, 256 + 5, math.MaxInt} {
		wantNoLine(t, say(1, api.Request{Op: op}))
		wantNoLine(t, say(1, api.Request{Id: 7, Op: op, Topic: "t", Key: "k"}))
	}
	for op := range operationWords() {
		for _, field := range requestFields() {
			if n := most(field); n > 0 {
				for _, length := range []int{1, n - 1, n, n + 1, 2 * n, 5000} {
					c := say(1, with(api.Request{Id: 7, Op: op}, field, strings.Repeat("x", length)))
					want(t, brief(c), wantPrinted(t, c), has(operationUsage()[op], field) && length <= n)
				}
				continue
			}
			for _, n := range []int64{math.MinInt64, -1, 1, 1 << 40, math.MaxInt64} {
				c := say(1, with(api.Request{Id: 7, Op: op}, field, n))
				want(t, brief(c), wantPrinted(t, c), has(operationUsage()[op], field) && n > 0)
			}
		}
		for _, id := range []uint32{0, 1, 1 << 31, lastId} {
			want(t, fmt.Sprint("the Id ", id), wantPrinted(t, say(1, api.Request{Id: id, Op: op})), true)
		}
	}
}

func TestPicks(t *testing.T) {
	for _, verb := range []int{api.VSteps, api.VCrash} {
		for _, picks := range [][]int{nil, {}, {0}, {-1}, {math.MinInt}, {math.MaxInt}, {0, 0, 0}, {math.MinInt, 0, math.MaxInt, -7}, slices.Repeat([]int{12}, 1000)} {
			want(t, brief(picks), wantPrinted(t, api.Command{Verb: verb, Picks: picks}), true)
		}
	}
	wantLine(t, api.Command{Verb: api.VSteps, Picks: []int{math.MinInt64, math.MaxInt64}}, "steps -9223372036854775808 9223372036854775807")
}

func TestRaw(t *testing.T) {
	var all []byte
	for c := range 256 {
		all = append(all, byte(c))
		wantLine(t, api.Command{Verb: api.VRaw, Conn: 3, Raw: []byte{byte(c)}}, fmt.Sprintf("raw 3 %02x", c))
	}
	want(t, "all bytes", wantPrinted(t, api.Command{Verb: api.VRaw, Conn: 3, Raw: all}), true)
	want(t, "no bytes", wantPrinted(t, api.Command{Verb: api.VRaw}), true)
}

func TestTexts(t *testing.T) {
	list := texts()
	for c := range 256 {
		list = append(list, string([]byte{byte(c)}), "a"+string([]byte{byte(c)}), string([]byte{byte(c)})+"Z", "a "+string([]byte{byte(c)})+"9")
	}
	for _, s := range list {
		for _, r := range []api.Request{{Op: api.OpList, Key: s}, {Op: api.OpGet, Topic: s, Key: s}, {Op: api.OpPut, Topic: "t", Key: s, Value: s + s}, {Op: api.OpCreate, Topic: s}} {
			want(t, brief(r), wantPrinted(t, say(1, r)), true)
		}
	}
	// Of the bytes that are written as themselves none is in need of a quote, and each other one is.
	itself := "abcdefghijklmnopqrstuvwxyzABCDEFGHIJKLMNOPQRSTUVWXYZ0123456789._-"
	wantLine(t, say(1, api.Request{Op: api.OpPut, Value: itself}), `say 1 0 put "" "" `+itself+" 0 0")
	for c := range 256 {
		line, _ := shell.Print(say(1, api.Request{Op: api.OpPut, Value: itself + string([]byte{byte(c)})}))
		want(t, fmt.Sprint("a quote for the byte ", c), strings.HasPrefix(line, `say 1 0 put "" "" "`), strings.IndexByte(itself, byte(c)) < 0)
	}
	wantLine(t, say(1, api.Request{Op: api.OpList, Key: "é\u2003\xff"}), `say 1 0 list "\xc3\xa9\xe2\x80\x83\xff"`)
}

// A line of just as many bytes as one may have, of one less and of one more.
func TestLongLines(t *testing.T) {
	lines := map[string]func(n int) api.Command{
		"raw": func(n int) api.Command {
			return api.Command{Verb: api.VRaw, Conn: 10 - 9*(n%2), Raw: make([]byte, 2044+n/2)}
		},
		"steps":           func(n int) api.Command { return long(api.VSteps, 2043, n) },
		"crash":           func(n int) api.Command { return long(api.VCrash, 2043, n) },
		"zeros":           func(n int) api.Command { return put(n, "", strings.Repeat("\x00", 1014)) },
		"all bytes above": func(n int) api.Command { return put(n, strings.Repeat("\xff", 64), strings.Repeat("\xff", 950)) },
		"some quotes": func(n int) api.Command {
			return put(n, strings.Repeat("\n", 64), strings.Repeat("\n", 940)+strings.Repeat(`"\`, 10))
		},
		"runes": func(n int) api.Command { return put(n, "é", strings.Repeat("日", 338)) },
	}
	for name, of := range lines {
		lengths := map[int]int{}
		for n := range 22 {
			c := of(n)
			line, there := slowPrint(c)
			lengths[len(line)]++
			want(t, fmt.Sprintf("%s: a line of %d bytes", name, len(line)), wantPrinted(t, c), there)
			want(t, fmt.Sprintf("%s: %d bytes are few enough", name, len(line)), there, len(line) <= maxLine)
		}
		for _, n := range []int{maxLine - 1, maxLine, maxLine + 1} {
			want(t, fmt.Sprintf("%s: %d bytes are tried", name, n), lengths[n] > 0, true)
		}
	}
	line, e := shell.Print(api.Command{Verb: api.VRaw, Raw: make([]byte, 2045)})
	want(t, "raw", line, "raw 0 "+strings.Repeat("00", 2045))
	want(t, "raw", e, api.OK)
}

// long is a command with so many picks, and n digits more.
func long(verb, picks, n int) api.Command {
	c := api.Command{Verb: verb, Picks: make([]int, picks)}
	for i := range n {
		c.Picks[i] = 10
	}
	return c
}

// put is a command with a value, a key, and a topic of n bytes that are written as themselves.
func put(n int, key, value string) api.Command {
	return say(0, api.Request{Op: api.OpPut, Topic: strings.Repeat("t", n), Key: key, Value: value})
}

func TestListsThatAreFarTooLong(t *testing.T) {
	wantNoLine(t, api.Command{Verb: api.VRaw, Raw: make([]byte, 1<<24)})
	wantNoLine(t, api.Command{Verb: api.VSteps, Picks: make([]int, 1<<24)})
	wantNoLine(t, api.Command{Verb: api.VCrash, Picks: make([]int, 4097)})
	wantNoLine(t, say(1, api.Request{Op: api.OpPut, Value: strings.Repeat("x", 1<<24)}))
	wantNoLine(t, say(1, api.Request{Op: api.OpPut, Topic: probe.Text(1, 24), Key: probe.Text(2, 64), Value: strings.Repeat("\x00", 1024)}))
}
