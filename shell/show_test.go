package shell_test

import (
	"fmt"
	"math"
	"slices"
	"strings"
	"testing"

	"chronicle/api"
	"chronicle/probe"
	"chronicle/shell"
)

// 23.3

func TestShowExamples(t *testing.T) {
	for line, r := range map[string]api.Response{
		`7 get ok 0 0 last value 3 9 0 0 k "v w"`:                {Id: 7, Op: api.OpGet, Records: []api.Record{{Kind: api.KValue, Offset: 3, Time: 9, Key: "k", Value: "v w"}}},
		"0 op0 ok 0 0 last":                                      {},
		"4294967295 deliver beyond -1 5 more":                    {Id: lastId, Op: api.OpDeliver, Code: api.CodeBeyond, Offset: -1, Number: 5, More: true},
		`1 op99 code99 0 0 last kind7 0 0 0 0 "" ""`:             {Id: 1, Op: 99, Code: 99, Records: []api.Record{{Kind: 7}}},
		`1 op-1 code-1 0 0 last kind-1 1 2 3 4 "" v`:             {Id: 1, Op: -1, Code: -1, Records: []api.Record{{Kind: -1, Offset: 1, Time: 2, Pid: 3, Seq: 4, Value: "v"}}},
		`2 list ok 0 2 last name a name "" name "\xff \"\\"`:     {Id: 2, Op: api.OpList, Number: 2, Names: []string{"a", "", "\xff \"\\"}},
		`3 stat too-many 0 0 more name n tombstone 1 2 3 4 k ""`: {Id: 3, Op: api.OpStat, Code: api.CodeTooMany, More: true, Names: []string{"n"}, Records: []api.Record{{Kind: api.KTombstone, Offset: 1, Time: 2, Pid: 3, Seq: 4, Key: "k"}}},
	} {
		want(t, "the line", wantShown(t, r), line)
	}
}

// The words of all operations, of all codes and of all kinds, and the numbers that have none.
func TestShownWords(t *testing.T) {
	for op, word := range map[int]string{
		api.OpPing: "ping", api.OpCreate: "create", api.OpDrop: "drop", api.OpList: "list", api.OpPut: "put", api.OpDelete: "delete", api.OpGet: "get", api.OpReplay: "replay", api.OpSnapshot: "snapshot",
		api.OpSubscribe: "subscribe", api.OpUnsubscribe: "unsubscribe", api.OpJoin: "join", api.OpCommit: "commit", api.OpPosition: "position", api.OpStat: "stat", api.OpDeliver: "deliver",
		0: "op0", 16: "op16", 17: "op17", 63: "op63", 65: "op65", 99: "op99", 256 + 5: "op261", 1<<32 + 5: "op4294967301", -1: "op-1", -64: "op-64", math.MinInt: "op-9223372036854775808", math.MaxInt: "op9223372036854775807",
	} {
		want(t, "the line", wantShown(t, api.Response{Id: 5, Op: op}), "5 "+word+" ok 0 0 last")
	}
	for code, word := range map[int]string{
		api.CodeOK: "ok", api.CodeBadRequest: "bad-request", api.CodeNoTopic: "no-topic", api.CodeExists: "exists", api.CodeFull: "full", api.CodeOffsets: "offsets", api.CodeHorizonPassed: "horizon-passed",
		api.CodeThrottled: "throttled", api.CodeSequence: "sequence", api.CodeTooMany: "too-many", api.CodeNoSuch: "no-such", api.CodeBeyond: "beyond",
		-1: "code-1", 12: "code12", 13: "code13", 64: "code64", 99: "code99", 256: "code256", 1 << 32: "code4294967296", math.MinInt: "code-9223372036854775808", math.MaxInt: "code9223372036854775807",
	} {
		want(t, "the line", wantShown(t, api.Response{Id: 5, Op: 1, Code: code}), "5 ping "+word+" 0 0 last")
	}
	for kind, word := range map[int]string{
		api.KValue: "value", api.KTombstone: "tombstone",
		0: "kind0", -1: "kind-1", 3: "kind3", 64: "kind64", 257: "kind257", 1<<32 + 1: "kind4294967297", math.MinInt: "kind-9223372036854775808", math.MaxInt: "kind9223372036854775807",
	} {
		r := api.Response{Id: 5, Op: 1, Records: []api.Record{{Kind: kind, Key: "k"}}}
		want(t, "the line", wantShown(t, r), "5 ping ok 0 0 last "+word+` 0 0 0 0 k ""`)
	}
	for op := -300; op < 300; op++ {
		wantShown(t, api.Response{Op: op, Code: op, Records: []api.Record{{Kind: op}}})
	}
}

func TestShownNumbers(t *testing.T) {
	for _, n := range []int64{math.MinInt64, math.MinInt64 + 1, -1 << 32, -10, -1, 0, 1, 9, 10, 1 << 32, maxTime, math.MaxInt64 - 1, math.MaxInt64} {
		wantShown(t, api.Response{Offset: n})
		wantShown(t, api.Response{Number: n})
		for _, field := range []string{"Offset", "Time", "Pid", "Seq"} {
			wantShown(t, api.Response{Op: api.OpDeliver, Records: []api.Record{with(api.Record{Kind: api.KValue}, field, n)}})
		}
	}
	for _, id := range []uint32{0, 1, 1<<31 - 1, 1 << 31, lastId} {
		want(t, "the line", wantShown(t, api.Response{Id: id, Op: 1}), fmt.Sprint(id, " ping ok 0 0 last"))
	}
	want(t, "the order", wantShown(t, api.Response{Id: 1, Op: 1, Offset: 2, Number: 3, Records: []api.Record{{Kind: 1, Offset: 4, Time: 5, Pid: 6, Seq: 7, Key: "8", Value: "9"}}}), "1 ping ok 2 3 last value 4 5 6 7 8 9")
}

func TestShownTexts(t *testing.T) {
	list := texts()
	for c := range 256 {
		list = append(list, string([]byte{byte(c)}), "a"+string([]byte{byte(c)}))
	}
	for i, s := range list {
		other := list[(i+1)%len(list)]
		wantShown(t, api.Response{Op: 4, Names: []string{s}})
		wantShown(t, api.Response{Op: 4, Names: []string{s, other, s}, Records: []api.Record{{Kind: 1, Key: s, Value: other}, {Key: other, Value: s}}})
	}
	for _, n := range []int{25, 65, 1025, 4096, 100000} {
		wantShown(t, api.Response{Op: 4, Names: []string{strings.Repeat("x", n)}, Records: []api.Record{{Kind: 1, Key: probe.Text(1, n), Value: strings.Repeat(`"`, n)}}})
	}
}

func TestShownLists(t *testing.T) {
	record := api.Record{Kind: api.KValue, Offset: 3, Key: "k"}
	for _, n := range []int{0, 1, 2, 16, 17, 1000} {
		for _, m := range []int{0, 1, 2, 300} {
			wantShown(t, api.Response{Op: 8, More: n%2 == 0, Names: slices.Repeat([]string{"a b"}, n), Records: slices.Repeat([]api.Record{record}, m)})
		}
	}
	want(t, "empty lists", shell.Show(api.Response{Names: []string{}, Records: []api.Record{}}), shell.Show(api.Response{}))
	// Names that look like other parts.
	for _, s := range []string{"name", "value", "tombstone", "kind1", "more", "last", "ok", "value 3 9 0 0 k v", "name a", `a" name "b`} {
		wantShown(t, api.Response{Op: 4, Names: []string{s, s}})
		wantShown(t, api.Response{Op: 4, Names: []string{s}, Records: []api.Record{{Kind: 1, Key: s, Value: s}}})
	}
}
