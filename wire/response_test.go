package wire_test

import (
	"bytes"
	"encoding/hex"
	"fmt"
	"math"
	"slices"
	"strings"
	"testing"

	"chronicle/api"
	"chronicle/probe"
	"chronicle/wire"
)

// 16.4
func TestResponsesThatMayBe(t *testing.T) {
	for _, r := range responses(t) {
		want(t, brief(r), wire.CheckResponse(r), api.OK)
	}
}

func TestResponsesOfNoOperation(t *testing.T) {
	for _, op := range []int{0, 16, 17, 63, 65, 128, 255, 256, 257, 256 + 64, 1<<32 + 1, math.MaxInt, -1, -64, -192, -255, math.MinInt} {
		wantNoResponse(t, fmt.Sprint("operation ", op), api.Response{Op: op}, api.ErrResponse)
		wantNoResponse(t, fmt.Sprint("operation ", op), api.Response{Id: 1, Op: op, Code: 1, Names: []string{"a"}}, api.ErrResponse)
	}
}

func TestResponsesOfNoCode(t *testing.T) {
	for _, code := range []int{-1, -2, -255, -256, math.MinInt, 12, 13, 255, 256, 257, 1 << 32, math.MaxInt} {
		for _, op := range []int{1, 15, 64} {
			wantNoResponse(t, fmt.Sprint("code ", code), api.Response{Op: op, Code: code}, api.ErrResponse)
		}
	}
	for code := range 12 {
		want(t, fmt.Sprint("code ", code), wire.CheckResponse(api.Response{Op: 64, Code: code}), api.OK)
	}
}

func TestResponsesWithNames(t *testing.T) {
	for n := range 40 {
		for _, name := range []string{"", "a", strings.Repeat("n", 24), "\xff\x00"} {
			r := api.Response{Op: 4, Names: slices.Repeat([]string{name}, n)}
			if n > 16 {
				wantNoResponse(t, fmt.Sprintf("%d names %q", n, name), r, api.ErrResponse)
			} else {
				want(t, fmt.Sprintf("%d names %q", n, name), wire.CheckResponse(r), api.OK)
			}
		}
	}
	for _, n := range []int{25, 26, 128, 280, 5000} {
		long := strings.Repeat("n", n)
		for _, names := range [][]string{{long}, {"a", long}, {long, "a"}, append(slices.Repeat([]string{"a"}, 15), long)} {
			wantNoResponse(t, fmt.Sprint("a name of ", n), api.Response{Op: 4, Names: names}, api.ErrResponse)
		}
	}
}

// wrongRecords is records that record.Check refuses, each for another reason.
func wrongRecords() []api.Record {
	return []api.Record{
		{},
		{Kind: 3, Key: "k"},
		{Kind: api.KValue},
		value(1<<40, "k", ""),
		value(-1, "k", ""),
		value(0, strings.Repeat("k", 65), ""),
		value(0, "k", strings.Repeat("v", 1025)),
		{Kind: api.KTombstone, Key: "k", Value: "v"},
		{Kind: api.KValue, Key: "k", Pid: 1},
		{Kind: api.KValue, Key: "k", Seq: 1},
		{Kind: api.KValue, Key: "k", Time: 1 << 50},
	}
}

func TestResponsesWithRecordsThatMayNotBe(t *testing.T) {
	right := value(1, "k", "v")
	for _, wrong := range wrongRecords() {
		for _, list := range [][]api.Record{{wrong}, {wrong, right}, {right, wrong}, {right, wrong, right}} {
			wantNoResponse(t, "with "+brief(wrong), api.Response{Op: 64, Records: list}, api.ErrResponse)
		}
		// What may not be is told ahead of what is too long, also where it stands behind the room's end.
		long := slices.Repeat([]api.Record{largest(1)}, 9)
		wantNoResponse(t, "too long, and with "+brief(wrong), api.Response{Op: 64, Records: append(long, wrong)}, api.ErrResponse)
	}
	long := slices.Repeat([]api.Record{largest(1)}, 9)
	for _, r := range []api.Response{{Op: 16}, {Op: 64, Code: 12}, {Op: 64, Names: make([]string, 17)}, {Op: 64, Names: []string{strings.Repeat("n", 25)}}} {
		r.Records = long
		wantNoResponse(t, "too long, and wrong", r, api.ErrResponse)
	}
}

func TestResponsesThatAreTooLong(t *testing.T) {
	heads := []api.Response{
		{Op: 64},
		{Id: lastId, Op: 1, Code: 11, Offset: math.MinInt64, Number: math.MinInt64, More: true},
		{Op: 4, Names: slices.Repeat([]string{strings.Repeat("n", 24)}, 16)},
	}
	for _, head := range heads {
		r := head
		for less := range 3 {
			r.Records = together(t, room(head)-less)
			want(t, brief(r), wire.CheckResponse(r), api.OK)
			b, e := wire.EncodeResponse(r)
			wantFrame(t, brief(r), b, e, slowFrame(join(slowResponse(r))))
			want(t, "bytes", len(b), maxFrame-less)
		}
		for _, more := range []int{1, 2, 100, 3000, 50000} {
			r.Records = together(t, room(head)+more)
			wantNoResponse(t, brief(r), r, api.ErrHuge)
		}
	}
	// The first ones fill a frame just to its end, and some stand behind them.
	for _, r := range heads {
		r.Records = together(t, room(r))
		want(t, "just full", wire.CheckResponse(r), api.OK)
		for range 3 {
			r.Records = append(r.Records, value(1, "k", ""))
			wantNoResponse(t, "full, and more behind", r, api.ErrHuge)
		}
	}
	// Of short ones it is one more that is too much.
	many := slices.Repeat([]api.Record{sized(t, 14)}, 400)
	for n := 280; n < 300; n++ {
		r := api.Response{Op: 64, Records: many[:n]}
		want(t, fmt.Sprintf("%d of the shortest", n), wire.CheckResponse(r), slowCheck(r))
	}
}

// A list that is far too long is refused soon, though its records are the same great one.
func TestResponsesOfVeryManyRecords(t *testing.T) {
	wantNoResponse(t, "very many", api.Response{Op: 64, Records: slices.Repeat([]api.Record{largest(1)}, 200000)}, api.ErrHuge)
}

// 16.5
func TestResponsesAsFrames(t *testing.T) {
	for _, r := range responses(t) {
		b, e := wire.EncodeResponse(r)
		wantFrame(t, brief(r), b, e, slowFrame(join(slowResponse(r))))
		if back, e := wire.DecodeResponse(b); !sameResponse(back, r) || e != api.OK {
			t.Errorf("DecodeResponse of %s: %s, %d", brief(r), brief(back), e)
		}
	}
}

func TestResponsesOfTheChapter(t *testing.T) {
	rec := api.Record{Kind: api.KValue, Offset: 5, Time: 300, Key: "k", Value: "v"}
	bytesOf := hex.EncodeToString(join(slowResponse(api.Response{Op: 1, Records: []api.Record{rec}}))[9:])
	want(t, "a record's bytes", strings.HasPrefix(bytesOf, "a900000007") && strings.HasSuffix(bytesOf, "0005ac02016b76"), true)
	for body, r := range map[string]api.Response{
		"520700070000000000":                      {Id: 7, Op: api.OpGet},
		"520700070001000000":                      {Id: 7, Op: api.OpGet, Number: -1},
		"520700070100000000":                      {Id: 7, Op: api.OpGet, Offset: -1},
		"52400bac02020301" + "00" + "00":          {Id: 300, Op: api.OpDeliver, Code: api.CodeBeyond, Offset: 1, Number: -2, More: true},
		"52040000000000" + "020161" + "00" + "00": {Op: api.OpList, Names: []string{"a", ""}},
		"520400ffffffff0f" + "feffffffffffffffff01" + "ffffffffffffffffff01" + "00" + "00" + "00": {Id: lastId, Op: api.OpList, Offset: math.MaxInt64, Number: math.MinInt64},
		"52400000000000" + "00" + "01" + bytesOf:                                                  {Op: api.OpDeliver, Records: []api.Record{rec}},
		"52400000000001" + "00" + "02" + bytesOf + bytesOf:                                        {Op: api.OpDeliver, More: true, Records: []api.Record{rec, rec}},
	} {
		raw, _ := hex.DecodeString(body)
		b, e := wire.EncodeResponse(r)
		wantFrame(t, body, b, e, slowFrame(raw))
		if back, e := wire.DecodeResponse(b); !sameResponse(back, r) || e != api.OK {
			t.Errorf("DecodeResponse of %s: %s, %d", body, brief(back), e)
		}
	}
}

func TestResponsesWithNumbersThatAreNone(t *testing.T) {
	for _, r := range responses(t) {
		list := slowResponse(r)
		for at, p := range list {
			if !p.number || len(join(list)) > 4000 {
				continue
			}
			what := fmt.Sprintf("%s: piece %d", brief(r), at)
			wantUnread(t, what+" longer", unlike(list, at, longer(p.b)), api.ErrRequest, api.ErrResponse)
			wantUnread(t, what+" above 64 bits", unlike(list, at, append(bytes.Repeat([]byte{0xff}, 9), 2)), api.ErrRequest, api.ErrResponse)
			if at != 4 && at != 5 { // Offset and Number have all of them
				for _, great := range []uint64{1 << 32, 1 << 63, 1<<64 - 1} {
					wantUnread(t, what+" too great", unlike(list, at, short(great).b), api.ErrRequest, api.ErrResponse)
				}
			}
		}
	}
}

func TestResponsesWithOtherHeads(t *testing.T) {
	body := join(slowResponse(api.Response{Id: 7, Op: 7, Code: 1}))
	at := func(place, b int) []byte {
		other := bytes.Clone(body)
		other[place] = byte(b)
		return slowFrame(other)
	}
	for b := range 256 {
		if b != 0x52 {
			wantUnread(t, fmt.Sprintf("mark %x", b), at(0, b), api.ErrRequest, api.ErrResponse)
		}
		if _, ok := usage()[b]; !ok && b != 64 {
			wantUnread(t, fmt.Sprintf("operation %d", b), at(1, b), api.ErrRequest, api.ErrResponse)
		}
		if b > 11 {
			wantUnread(t, fmt.Sprintf("code %d", b), at(2, b), api.ErrRequest, api.ErrResponse)
		}
		if b > 1 {
			wantUnread(t, fmt.Sprintf("More %d", b), at(6, b), api.ErrRequest, api.ErrResponse)
		}
	}
}

func TestResponsesThatEndElsewhere(t *testing.T) {
	for _, r := range responses(t) {
		body := join(slowResponse(r))
		step := 1 + len(body)/40 // of long ones not every place
		for n := len(body) - 1; n > 0; n -= step {
			wantUnread(t, brief(r)+" cut", slowFrame(body[:n]), api.ErrRequest, api.ErrResponse)
		}
		for _, behind := range []byte{0, 1, 0x52, 0xa9, 0xff} {
			if len(body) < maxFrame-9 {
				wantUnread(t, brief(r)+" and more", slowFrame(append(bytes.Clone(body), behind)), api.ErrRequest, api.ErrResponse)
			}
		}
	}
}

func TestResponsesWithOtherLists(t *testing.T) {
	head := []piece{plain(0x52, 64, 0), short(7), short(0), short(0), plain(0)}
	rec := slowResponse(api.Response{Op: 64, Records: []api.Record{value(1, "k", "v")}})[9]
	refused := func(what string, parts ...piece) {
		t.Helper()
		list := append(slices.Clone(head), parts...)
		wantUnread(t, what, slowFrame(join(list)), api.ErrRequest, api.ErrResponse)
	}
	refused("no lists")
	refused("one list", short(0))
	refused("too few records", short(0), short(2), rec)
	refused("too many records", short(0), short(1), rec, rec)
	refused("records of a list of none", short(0), short(0), rec)
	refused("very many records", short(0), short(1<<64-1), rec, rec)
	refused("too few names", append(append([]piece{short(2)}, text("a")...), short(0))...)
	refused("too many names", append(append(append([]piece{short(1)}, text("a")...), text("b")...), short(0))...)
	names := []piece{short(17)}
	for range 17 {
		names = append(names, text("a")...)
	}
	refused("17 names", append(names, short(0))...)
	refused("a name of 25", append(append([]piece{short(1)}, text(strings.Repeat("n", 25))...), short(0))...)
	broken := bytes.Clone(rec.b)
	broken[len(broken)-1]++
	refused("a record with a wrong sum", short(0), short(1), plain(broken...))
	refused("a record that is none", short(0), short(1), plain([]byte(probe.Text(3, 30))...))
	refused("a record cut short", short(0), short(1), plain(rec.b[:len(rec.b)-1]...))
}
