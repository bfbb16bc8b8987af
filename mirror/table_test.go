package mirror_test

import (
	"fmt"
	"math"
	"testing"

	"chronicle/api"
	"chronicle/probe"
	"chronicle/wire"
)

// stand is something that a mirror can be at: how it comes there, and how many requests it has told by then.
type stand struct {
	name string
	come func(k *double)
	told uint32
}

// says hands both responses.
func (k *double) says(list ...api.Response) {
	k.t.Helper()
	k.hear("on the way", frames(k.t, list...))
}

// stands are all that a mirror can be at, from the beginning on.
func stands() []stand {
	return []stand{
		{"opened", func(k *double) {}, 0},
		{"asked", func(k *double) { k.ask("") }, 1},
		{"tails at 0", func(k *double) { k.ask(""); k.says(subscribed(1, 0, 4)) }, 1},
		{"tails at 2", func(k *double) {
			k.ask("")
			k.says(subscribed(1, 0, 4), delivered(1, 2, value(0, "a", "1"), value(1, "b", "2")))
		}, 1},
		{"tails at 5, committed", func(k *double) {
			k.ask("")
			k.says(subscribed(1, 0, 4), delivered(1, 5, value(0, "a", "1"), value(1, "b", "2"), tomb(3, "a")))
			k.commitBoth("")
		}, 1},
		{"asked from 2 on", func(k *double) {
			k.ask("")
			k.says(subscribed(1, 0, 4), delivered(1, 2, value(0, "a", "1")))
			k.lose()
			k.ask("")
		}, 1},
		{"passed", func(k *double) {
			k.ask("")
			k.says(subscribed(1, 0, 4), delivered(1, 2, value(0, "a", "1")), refused(1, api.OpDeliver, api.CodeHorizonPassed))
		}, 1},
		{"has to begin with a snapshot", func(k *double) {
			k.ask("")
			k.says(subscribed(1, 0, 4), delivered(1, 2, value(0, "a", "1"), value(1, "c", "2")))
			k.m.Topic().Commit()
			k.s.held.Commit()
			k.reopen()
		}, 0},
		{"asked for a snapshot", func(k *double) { k.toSnap(); k.ask("") }, 2},
		{"takes a snapshot", func(k *double) { k.toSnap(); k.ask(""); k.says(snapped(2, 9, 5)) }, 2},
		{"takes one of nothing", func(k *double) { k.toSnap(); k.ask(""); k.says(snapped(2, 0, 5)) }, 2},
		{"takes one, and has a part", func(k *double) {
			k.toSnap()
			k.ask("")
			k.says(snapped(2, 9, 4), delivered(2, 9, value(5, "a", "2"), value(2, "b", "3")))
		}, 2},
		{"has taken one", func(k *double) {
			k.toSnap()
			k.ask("")
			k.says(snapped(2, 9, 4), final(2, 9, value(5, "b", "2")))
		}, 2},
		{"tails behind one", func(k *double) {
			k.toSnap()
			k.ask("")
			k.says(snapped(2, 9, 4), final(2, 9, value(5, "b", "2")))
			k.ask("")
			k.says(subscribed(3, 9, 4))
		}, 3},
		{"another topic", func(k *double) {
			k.ask("")
			k.says(subscribed(1, 0, 4), delivered(1, 2, value(0, "a", "1")))
			k.lose()
			k.ask("")
			k.says(subscribed(1, 2, 5))
		}, 1},
		{"idle", func(k *double) { k.ask(""); k.says(refused(1, api.OpSubscribe, api.CodeNoTopic)) }, 1},
		{"idle in a snapshot", func(k *double) {
			k.toSnap()
			k.ask("")
			k.says(snapped(2, 9, 4), refused(2, api.OpDeliver, api.CodeNoTopic))
		}, 2},
		{"broken", func(k *double) { k.ask(""); k.says(subscribed(1, 0, 0)) }, 1},
		{"lost", func(k *double) { k.ask(""); k.says(subscribed(1, 0, 4)); k.lose() }, 0},
	}
}

// toSnap leads to where a snapshot is to be asked for, and the copy has a=1 c=2.
func (k *double) toSnap() {
	k.t.Helper()
	k.ask("")
	k.says(subscribed(1, 0, 4), delivered(1, 2, value(0, "a", "1"), value(1, "c", "2")), refused(1, api.OpDeliver, api.CodeHorizonPassed))
	k.commitBoth("")
}

// reopen opens both over what a crash leaves.
func (k *double) reopen() {
	k.t.Helper()
	again := doubled(k.t, k.d.Crash(nil), k.limit, k.now)
	alike(k.t, "reopened", again.d, again.s.d)
	*k = *again
}

// at is a double that has come to a stand.
func (s stand) at(t *testing.T) *double {
	t.Helper()
	k := doubled(t, nil, usual, 0)
	s.come(k)
	return k
}

// lists are records of all kinds, as deliveries may have them or not.
func lists() [][]api.Record {
	return [][]api.Record{
		nil,
		{value(0, "a", "7")}, {value(1, "b", "7")}, {value(2, "b", "7")}, {value(4, "d", "7")}, {value(5, "c", "")}, {value(8, "e", "7")}, {value(9, "a", "7")}, {value(maxOffset-1, "z", "7")},
		{tomb(2, "a")}, {tomb(9, "c")},
		{value(2, "a", "7"), value(3, "b", "8")}, {value(5, "b", "7"), value(5, "c", "8")}, {value(6, "c", "7"), value(5, "d", "8")}, {value(5, "d", "7"), value(8, "c", "8")},
		{value(9, "c", "7"), value(10, "c", "8")}, {value(2, "c", "7"), tomb(3, "d")}, {tomb(2, "c"), value(3, "d", "7")},
		{value(9, "c", "7"), value(10, "d", "8"), value(11, "e", "9")}, {value(9, "c", "7"), value(11, "e", "8"), value(10, "f", "9")},
		{value(3, "b\x00", "7"), value(4, "b\x00\xff", "8"), value(8, "\xff", "9")},
		{{Kind: 1, Offset: 5, Time: 99, Pid: 7, Seq: 3, Key: "p", Value: "q"}, {Kind: 1, Offset: 6, Time: 3, Pid: 7, Seq: 3, Key: "pp"}},
	}
}

// 22.4: each stand, and each response, with each field at its edges.
func TestEveryResponseEverywhere(t *testing.T) {
	tried := map[int]int{}
	try := func(s stand, r api.Response) {
		k := s.at(t)
		what := fmt.Sprintf("%s: %+v", s.name, r)
		k.hear(what, frames(t, r))
		k.wantSame(what)
		tried[k.m.State().State]++
		k.ask(what)
		k.commitBoth(what)
		k.wantSame(what + ", committed")
		if t.Failed() {
			t.FailNow()
		}
	}
	for _, s := range stands() {
		for _, r := range aroundIds(s) {
			try(s, r)
		}
		for _, r := range aroundFields(s) {
			try(s, r)
		}
	}
	t.Log(tried)
	for state := range 4 {
		want(t, fmt.Sprint("often in state ", state), tried[state] > 500, true)
	}
}

// aroundIds is responses of each Id that may be near, each Op and each Code.
func aroundIds(s stand) []api.Response {
	var list []api.Response
	for _, id := range []uint32{0, s.told - 1, s.told, s.told + 1, math.MaxUint32} {
		for _, op := range []int{1, 5, 8, 9, 10, 11, 64} {
			for code := range 12 {
				list = append(list, api.Response{Id: id, Op: op, Code: code, More: true})
				list = append(list, api.Response{Id: id, Op: op, Code: code, Offset: 9, Number: 4})
			}
		}
	}
	return list
}

// aroundFields is responses of the right Id, with each of the other fields at its edges.
func aroundFields(s stand) []api.Response {
	var list []api.Response
	offsets := []int64{-1, 0, 1, 2, 4, 5, 6, 8, 9, 10, 12, maxOffset - 1, maxOffset, maxOffset + 1, math.MinInt64, math.MaxInt64}
	for _, op := range []int{9, 10} {
		for _, offset := range offsets {
			for _, number := range []int64{-1, 0, 1, 4, 5, lastId, lastId + 1, math.MinInt64, math.MaxInt64} {
				r := api.Response{Id: s.told, Op: op, Offset: offset, Number: number}
				list = append(list, r)
			}
		}
		r := api.Response{Id: s.told, Op: op, Offset: 9, Number: 4, More: true, Names: []string{"a", ""}, Records: []api.Record{value(3, "x", "y"), tomb(1, "a")}}
		list = append(list, r)
		r.Offset = 0
		list = append(list, r)
	}
	for _, offset := range offsets {
		for _, recs := range lists() {
			list = append(list, delivered(s.told, offset, recs...), final(s.told, offset, recs...))
		}
	}
	for _, r := range []api.Response{delivered(s.told, 9, value(5, "c", "7")), final(s.told, 9, value(5, "c", "7"))} {
		r.Number, r.Names = -5, []string{"t", "\xff"}
		list = append(list, r)
	}
	return list
}

// 22.4: what stands behind a response, in the same chunk and in the next one, wherever the first one leads.
func TestEveryTwoResponses(t *testing.T) {
	seconds := func(told uint32) []api.Response {
		return []api.Response{
			delivered(told, 9, value(8, "d", "9")), final(told, 9), delivered(1, 9), delivered(told+1, 9), subscribed(told, 9, 4), snapped(told, 9, 4),
			refused(told, api.OpDeliver, api.CodeHorizonPassed), refused(told, api.OpDeliver, api.CodeBeyond), refused(told, api.OpSubscribe, api.CodeFull), refused(told, api.OpSnapshot, api.CodeBeyond),
		}
	}
	for _, s := range stands() {
		firsts := append(seconds(s.told), delivered(s.told, 5, value(4, "x", "1")), subscribed(s.told, 0, 4), subscribed(s.told, 2, 4), subscribed(s.told, 9, 5), snapped(s.told, 0, 1))
		for _, first := range firsts {
			for _, second := range seconds(s.told) {
				k := s.at(t)
				what := fmt.Sprintf("%s: %+v and %+v", s.name, first, second)
				b := frames(t, first, second)
				k.hear(what, b)
				k.wantSame(what)

				k = s.at(t)
				k.hear(what+", with a request between", frames(t, first))
				k.ask(what)
				k.hear(what+", with a request between", frames(t, second), 1, 7, 20)
				k.wantSame(what + ", with a request between")
				if t.Failed() {
					t.FailNow()
				}
			}
		}
	}
}

// noFrames are bytes that are no response's frame.
func noFrames(t *testing.T) map[string][]byte {
	right := frames(t, subscribed(1, 0, 4))
	spoilt := append([]byte(nil), right...)
	spoilt[len(spoilt)-1] ^= 1
	return map[string][]byte{
		"a byte that is no mark":  {7},
		"a zero":                  {0},
		"a length of 0":           {0xc5, 0, 0, 0, 0},
		"a frame too long":        {0xc5, 0, 0, 0x0f, 0xf8},
		"a frame far too long":    {0xc5, 0xff, 0xff, 0xff, 0xff},
		"a wrong sum":             spoilt,
		"a request":               request(t, api.Request{Id: 1, Op: api.OpSubscribe, Topic: "t"}),
		"a body of nothing known": body(t, "\x00"),
		"a body that is cut":      body(t, "\x52\x0a\x00\x01"),
		"a body with more":        body(t, string(right[9:])+"\x00"),
		"no such operation":       body(t, "\x52\x10\x00\x01\x00\x08\x00\x00\x00"),
		"no such code":            body(t, "\x52\x0a\x0c\x01\x00\x08\x00\x00\x00"),
		"a frame of zeros":        body(t, string(make([]byte, 4087))),
	}
}

// 22.4: what is no frame, and what is no response, wherever it comes; and what stands behind it.
func TestWhatIsNoResponse(t *testing.T) {
	for _, s := range stands() {
		for name, b := range noFrames(t) {
			for _, cuts := range [][]int{nil, {1}, {4}, {1, 2, 3, 4, 5, 6, 7, 8, 9, 10}} {
				k := s.at(t)
				what := s.name + ": " + name
				k.hear(what, append(b, frames(t, delivered(s.told, 9))...), cuts...)
				wanted := api.MirBroken
				if s.name == "idle" || s.name == "idle in a snapshot" {
					wanted = api.MirIdle
				}
				want(t, what+": State", k.m.State().State, wanted)
				k.wantSame(what)
				k.ask(what)
				for _, more := range [][]byte{nil, {}, frames(t, subscribed(1, 0, 4)), {7}} {
					k.hear(what+", and more", more)
				}
				k.commitBoth(what)
				k.wantSame(what + ", and more")
				k.lose()
				k.ask(what)
				k.wantSame(what + ", lost")
			}
		}
	}
}

// 22.4: chunks of nothing, and frames that are not whole, tell nothing.
func TestNothingWhole(t *testing.T) {
	for _, s := range stands() {
		for _, chunk := range [][]byte{nil, {}, frames(t, subscribed(1, 0, 4))[:1], frames(t, delivered(s.told, 2, value(0, "a", bulk(1))))[:100]} {
			k := s.at(t)
			before := k.m.State()
			untouched(t, s.name, k.d, func() { k.hear(s.name, chunk) })
			want(t, s.name+": State", k.m.State(), before)
		}
	}
}

// 22.4: whatever the chunks are, the same is done.
func TestAnyChunksAreTheSame(t *testing.T) {
	b := frames(t, subscribed(1, 0, 4), delivered(1, 2, value(0, "a", "1"), value(1, "b", "2")), delivered(1, 3, tomb(2, "a")), delivered(1, 7, value(6, "c", bulk(2))), refused(1, api.OpDeliver, api.CodeHorizonPassed), delivered(1, 9))
	for _, end := range [][]byte{nil, {7}, frames(t, snapped(2, 0, 4)), frames(t, final(1, 2))} {
		all := append(b, end...)
		whole := doubled(t, nil, usual, 0)
		whole.ask("whole")
		whole.hear("whole", all)
		for from := range all {
			for _, to := range []int{from + 1, from + 5, len(all)} {
				k := doubled(t, nil, usual, 0)
				k.ask("chunks")
				k.hear(fmt.Sprint("cut at ", from, " and ", to), all, from, to)
				want(t, "State", k.m.State(), whole.m.State())
				alike(t, "chunks", k.d, whole.d)
			}
		}
		k := doubled(t, nil, usual, 0)
		k.ask("byte by byte")
		var each []int
		for i := range all {
			each = append(each, i)
		}
		k.hear("byte by byte", all, each...)
		k.wantSame("byte by byte")
		alike(t, "byte by byte", k.d, whole.d)
	}
}

// 22.4: many frames at once, more than one chunk of a reader has room for.
func TestManyFramesAtOnce(t *testing.T) {
	k := doubled(t, nil, usual, 0)
	k.ask("many")
	all := frames(t, subscribed(1, 0, 4))
	for i := range int64(300) {
		all = append(all, frames(t, delivered(1, i+1, value(i, fmt.Sprint("k", i%40), probe.Text(uint64(i), 500))))...)
	}
	k.hear("many", all)
	k.wantSame("many")
	want(t, "State", k.m.State(), api.MirState{State: api.MirTail, Position: 300, Keys: 40, Pending: 47})
	k.commitBoth("many")
	k.wantSame("many, committed")
}

// request is a request's frame, body that of some body.
func request(t *testing.T, r api.Request) []byte {
	t.Helper()
	b, e := wire.EncodeRequest(r)
	want(t, "EncodeRequest", e, api.OK)
	return b
}

func body(t *testing.T, text string) []byte {
	t.Helper()
	b, e := wire.Frame([]byte(text))
	want(t, "Frame", e, api.OK)
	return b
}
