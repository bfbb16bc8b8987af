package chronicle_test

import (
	"fmt"
	"strings"
	"testing"

	"chronicle/api"
)

// 24.3: VOpen, VShut, VSay, VRaw

// The script of the document's tests, told line by line.
func TestExample(t *testing.T) {
	wantTold(t, `
# a topic, a value, a loss of power
open 1
say 1 1 create t 0
say 1 2 put t k v 0 0

steps 0 0 1
take 1 100000
crash
say 1 3 get t k
open 2
say 2 3 get t k
tick 7
steps 0 3
take 2 100000
check
state
shut 2
shut 2
`, `
2 open 0
3 say 0 1
4 say 0 1
6 did 1 1 1 2 0 0
6 did 1 1 1 5 -1 0
6 did 2 0 0 0 0 1
7 got 1 create ok 0 1 last
7 got 2 put ok 0 0 last
7 take 0
8 crash 0
9 say 201 0
10 open 0
11 say 0 1
12 tick 7
13 did 1 1 1 7 0 0
13 did 0 0 0 0 0 0
14 got 3 get ok 0 0 last value 0 0 0 0 k v
14 take 0
15 check 0
16 state 1 1 0 0 0
16 topic t 1 1 1 1
17 shut 0
18 shut 201
`)
}

// A label is the script's own: it is not the connection's number.
func TestLabels(t *testing.T) {
	wantTold(t, `
open 999
open 0
open 42
say 0 1 ping
say 42 2 ping
say 999 3 ping
steps 0 0 0
take 42 99
take 0 99
take 999 99
shut 0
say 0 4 ping
say 42 5 ping
steps 0
state
`, `
1 open 0
2 open 0
3 open 0
4 say 0 1
5 say 0 1
6 say 0 1
7 did 1 1 0 1 0 0
7 did 1 2 0 1 0 0
7 did 1 3 0 1 0 0
8 got 2 ping ok 0 0 last
8 take 0
9 got 1 ping ok 0 0 last
9 take 0
10 got 3 ping ok 0 0 last
10 take 0
11 shut 0
12 say 201 0
13 say 0 1
14 did 1 3 0 1 0 0
15 state 2 0 0 0 0
`)
}

// What is opened twice stands for the later connection; the earlier one is still there, and what it asked is served.
func TestOneLabelTwice(t *testing.T) {
	wantTold(t, `
open 1
say 1 1 ping
open 1
say 1 2 ping
steps 0 0 0
take 1 999
state
shut 1
state
say 1 3 ping
take 1 9
open 1
state
say 1 4 ping
steps 0
`, `
1 open 0
2 say 0 1
3 open 0
4 say 0 1
5 did 1 1 0 1 0 0
5 did 1 2 0 1 0 0
5 did 0 0 0 0 0 0
6 got 2 ping ok 0 0 last
6 take 0
7 state 2 0 0 0 0
8 shut 0
9 state 1 0 0 0 0
10 say 201 0
11 take 201
12 open 0
13 state 2 0 0 0 0
14 say 0 1
15 did 1 3 0 1 0 0
`)
}

// As many connections as may be, and one more. A label whose VOpen was refused stands for none, though it had one.
func TestManyConnections(t *testing.T) {
	var script, wanted []string
	add := func(line, told string) {
		script = append(script, line)
		wanted = append(wanted, fmt.Sprint(len(script), " ", told))
	}
	for i := range maxConns {
		add(fmt.Sprint("open ", i), "open 0")
	}
	add("state", "state 16 0 0 0 0")
	add("open 16", "open 200")
	for _, line := range []string{"say 16 1 ping", "raw 16 -"} {
		add(line, line[:3]+" 201 0")
	}
	add("take 16 9", "take 201")
	add("shut 16", "shut 201")
	add("say 3 1 ping", "say 0 1")
	add("open 3", "open 200")
	add("say 3 2 ping", "say 201 0")
	add("raw 3 c5", "raw 201 0")
	add("take 3 9", "take 201")
	add("shut 3", "shut 201")
	add("state", "state 16 0 0 0 0")
	add("steps 0", "did 1 4 0 1 0 0") // what it had said is served
	add("shut 7", "shut 0")
	add("open 3", "open 0")
	add("say 3 3 ping", "say 0 1")
	add("steps 0", "did 1 17 0 1 0 0")
	add("open 7", "open 200")
	add("shut 7", "shut 201")
	add("state", "state 16 0 0 0 0")
	wantTold(t, texts(script...), texts(wanted...))
}

// Labels that were never opened, that were shut, that stood open ahead of a crash.
func TestLabelsOfNone(t *testing.T) {
	for what, ahead := range map[string]string{
		"never":        "open 2\nopen 3\n",
		"shut":         "open 1\nshut 1\n",
		"ahead":        "open 1\ncrash\n",
		"shut, ahead":  "open 1\nshut 1\ncrash\n",
		"long ahead":   "open 1\ncrash\ncrash 1\ncrash\n",
		"opened since": "open 1\ncrash\nopen 2\n", // the new one has the old one's number
		"refused":      strings.Repeat("open 2\n", maxConns) + "open 1\n",
		"both":         "open 1\n" + strings.Repeat("open 2\n", maxConns-1) + "open 1\nshut 2\n",
	} {
		n := strings.Count(ahead, "\n")
		got := ran(t, ahead+"shut 1\nsay 1 1 ping\nraw 1 -\nraw 1 00\ntake 1 0\ntake 1 99\n", wide, usual())
		told := strings.Join(slowLines(got.told)[n:], "\n")
		wanted := fmt.Sprintf("%d shut 201\n%d say 201 0\n%d raw 201 0\n%d raw 201 0\n%d take 201\n%d take 201", n+1, n+2, n+3, n+4, n+5, n+6)
		want(t, what, told, wanted)
	}
}

// What is said is a frame, each request of all operations.
func TestSay(t *testing.T) {
	list := []api.Request{
		{Id: 1, Op: api.OpPing}, {Id: 2, Op: api.OpCreate, Topic: "t"}, {Id: 3, Op: api.OpCreate, Topic: "u", Number: 7}, {Id: 4, Op: api.OpPut, Topic: "t", Key: "a b\n", Value: "\xff\x00\""},
		{Id: 5, Op: api.OpPut, Topic: "t", Key: "k", Pid: 3, Seq: 1}, {Id: 6, Op: api.OpDelete, Topic: "t", Key: "k", Pid: 3, Seq: 2}, {Id: 7, Op: api.OpGet, Topic: "t", Key: "a b\n"},
		{Id: 8, Op: api.OpList, Key: "t"}, {Id: 9, Op: api.OpReplay, Topic: "t"}, {Id: 10, Op: api.OpSnapshot, Topic: "t", Key: "a"}, {Id: 11, Op: api.OpSubscribe, Topic: "t"}, {Id: 12, Op: api.OpUnsubscribe, Number: 11},
		{Id: 13, Op: api.OpJoin, Key: "g"}, {Id: 14, Op: api.OpCommit, Topic: "t", Key: "g", Offset: 3, Number: 1}, {Id: 15, Op: api.OpPosition, Topic: "t", Key: "g"}, {Id: 16, Op: api.OpStat, Topic: "t"}, {Id: 17, Op: api.OpDrop, Topic: "u"},
		{Id: 1<<32 - 1, Op: api.OpGet, Topic: "", Key: ""},
	}
	said, fed := []string{"open 1"}, []string{"open 1"}
	for _, r := range list {
		said = append(said, say(1, r), "steps 0 1 2", "take 1 99999")
		fed = append(fed, raw(1, frame(r)), "steps 0 1 2", "take 1 99999")
	}
	one, two := ran(t, texts(said...), wide, usual()), ran(t, texts(fed...), wide, usual())
	two.told = strings.ReplaceAll(two.told, " raw 0 1\n", " say 0 1\n")
	two.want(t, "bytes are as good as words", one)
	want(t, "each is answered", strings.Count(one.told, " got "), len(list)+3) // and three deliveries
	for _, op := range []string{"create", "drop", "list", "put", "delete", "get", "replay", "snapshot", "subscribe", "unsubscribe", "join", "commit", "position", "stat"} {
		want(t, op, strings.Contains(one.told, " "+op+" ok "), true)
	}
}

func TestRaw(t *testing.T) {
	ping := frame(api.Request{Id: 1, Op: api.OpPing})
	spoilt := append([]byte{}, ping...)
	spoilt[len(spoilt)-1] ^= 1
	response := []byte{0xc5, 0, 0, 0, 1}
	script := []string{
		"open 1", raw(1, nil), raw(1, ping), raw(1, append(append([]byte{}, ping...), ping...)),
		raw(1, ping[:3]), raw(1, ping[3:4]), "take 1 99", raw(1, ping[4:]), raw(1, spoilt), raw(1, append(spoilt, ping...)), "take 1 999",
		"steps 0 0 0 0 0 0", "take 1 999", raw(1, ping[:1]), raw(1, nil), raw(1, ping[1:]),
		raw(1, response), raw(1, ping), raw(1, []byte{0}), "steps 0 0", "take 1 999", "open 1", raw(1, []byte{0}), raw(1, ping), "steps 0", "take 1 99", "open 1", raw(1, ping), "steps 0", "take 1 99",
	}
	wantTold(t, texts(script...), `
1 open 0
2 raw 0 0
3 raw 0 1
4 raw 0 2
5 raw 0 0
6 raw 0 0
7 take 0
8 raw 0 1
9 raw 0 0
10 raw 0 1
11 got 0 ping bad-request 0 0 last
11 got 0 ping bad-request 0 0 last
11 take 0
12 did 1 1 0 1 0 0
12 did 1 1 0 1 0 0
12 did 1 1 0 1 0 0
12 did 1 1 0 1 0 0
12 did 1 1 0 1 0 0
12 did 0 0 0 0 0 0
13 got 1 ping ok 0 0 last
13 got 1 ping ok 0 0 last
13 got 1 ping ok 0 0 last
13 got 1 ping ok 0 0 last
13 got 1 ping ok 0 0 last
13 take 0
14 raw 0 0
15 raw 0 0
16 raw 0 1
17 raw 0 0
18 raw 0 0
19 raw 0 0
20 did 1 1 0 1 0 0
20 did 0 0 0 0 0 0
21 got 0 ping bad-request 0 0 last
21 got 0 ping bad-request 0 0 last
21 got 1 ping ok 0 0 last
21 take 0
22 open 0
23 raw 0 0
24 raw 0 0
25 did 0 0 0 0 0 0
26 got 0 ping bad-request 0 0 last
26 take 0
27 open 0
28 raw 0 1
29 did 1 3 0 1 0 0
30 got 1 ping ok 0 0 last
30 take 0
`)
}

// The inbox takes 64 requests.
func TestFullInbox(t *testing.T) {
	var many []byte
	for i := range 70 {
		many = append(many, frame(api.Request{Id: uint32(i + 1), Op: api.OpPing})...)
	}
	got := ran(t, texts("open 1", raw(1, many), "say 1 99 ping", "steps 0", "say 1 100 ping", "say 1 101 ping", "take 1 9999"), wide, usual())
	want(t, "told", strings.HasPrefix(got.told, "1 open 0\n2 raw 0 64\n3 say 0 0\n4 did 1 1 0 1 0 0\n5 say 0 1\n6 say 0 0\n7 got 65 ping too-many 0 0 last\n"), true)
	want(t, "told", strings.HasSuffix(got.told, "7 got 99 ping too-many 0 0 last\n7 got 1 ping ok 0 0 last\n7 got 101 ping too-many 0 0 last\n7 take 0\n"), true)
}
