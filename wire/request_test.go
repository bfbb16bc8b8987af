package wire_test

import (
	"bytes"
	"encoding/hex"
	"fmt"
	"math"
	"strings"
	"testing"

	"chronicle/api"
	"chronicle/probe"
	"chronicle/wire"
)

// 16.2
func TestRequestsThatMayBe(t *testing.T) {
	for _, r := range requests() {
		want(t, brief(r), wire.CheckRequest(r), api.OK)
	}
	want(t, "an empty get", wire.CheckRequest(api.Request{Op: api.OpGet}), api.OK)
}

func TestOperationsThatAreNone(t *testing.T) {
	for _, op := range []int{0, 16, 17, 63, 64, 65, 128, 255, 256, 257, 256 + 15, 320, 1 << 32, 1<<32 + 1, math.MaxInt, -1, -7, -64, -255, -256, math.MinInt} {
		wantNoRequest(t, fmt.Sprint("operation ", op), api.Request{Op: op})
		wantNoRequest(t, fmt.Sprint("operation ", op), api.Request{Id: 1, Op: op, Topic: "t", Key: "k"})
	}
}

func TestFieldsThatAreNotUsed(t *testing.T) {
	for op := range usage() {
		for _, field := range fields() {
			for _, v := range ofField(field) {
				what := fmt.Sprintf("operation %d, %s %.20q", op, field, fmt.Sprint(v))
				if uses(op, field) {
					want(t, what, wire.CheckRequest(with(greatest(op), field, v)), api.OK)
				} else {
					wantNoRequest(t, what, with(api.Request{Op: op}, field, v))
					wantNoRequest(t, what+", with all that it uses", with(greatest(op), field, v))
				}
			}
		}
	}
}

func TestTextsThatAreTooLong(t *testing.T) {
	for op := range usage() {
		for _, field := range []string{"Topic", "Key", "Value"} {
			for _, n := range []int{most(field) + 1, most(field) + 2, most(field) + 128, most(field) + 256, 1 << 16, 1 << 20} {
				s := strings.Repeat("x", n)
				wantNoRequest(t, fmt.Sprintf("operation %d, %s of %d", op, field, n), with(api.Request{Op: op}, field, s))
			}
			r := with(api.Request{Op: op}, field, strings.Repeat("x", most(field)))
			want(t, fmt.Sprintf("operation %d, the longest %s", op, field), wire.CheckRequest(r) == api.OK, uses(op, field))
		}
	}
}

func TestNumbersBelowZero(t *testing.T) {
	for op := range usage() {
		for _, field := range []string{"Offset", "Number", "Pid", "Seq"} {
			for _, n := range []int64{-1, -2, -128, math.MinInt64, math.MinInt64 + 1} {
				what := fmt.Sprintf("operation %d, %s %d", op, field, n)
				wantNoRequest(t, what, with(api.Request{Op: op}, field, n))
				wantNoRequest(t, what, with(greatest(op), field, n))
			}
			for _, n := range []int64{0, 1, lastNumber} {
				r := with(api.Request{Op: op}, field, n)
				want(t, brief(r), wire.CheckRequest(r) == api.OK, n == 0 || uses(op, field))
			}
		}
	}
}

// 16.3
func TestRequestsAsFrames(t *testing.T) {
	for _, r := range requests() {
		b, e := wire.EncodeRequest(r)
		wantFrame(t, brief(r), b, e, slowFrame(join(slowRequest(r))))
		if back, e := wire.DecodeRequest(b); back != r || e != api.OK {
			t.Errorf("DecodeRequest of %s: %s, %d", brief(r), brief(back), e)
		}
	}
}

func TestRequestsOfTheChapter(t *testing.T) {
	for body, r := range map[string]api.Request{
		"5107070174016b":               {Id: 7, Op: api.OpGet, Topic: "t", Key: "k"},
		"5101ac02":                     {Id: 300, Op: api.OpPing},
		"5101ffffffff0f":               {Id: lastId, Op: api.OpPing},
		"5102000174ac02":               {Op: api.OpCreate, Topic: "t", Number: 300},
		"5103000174":                   {Op: api.OpDrop, Topic: "t"},
		"5104000161":                   {Op: api.OpList, Key: "a"},
		"51040000":                     {Op: api.OpList},
		"5105000174016b0176ac0201":     {Op: api.OpPut, Topic: "t", Key: "k", Value: "v", Pid: 300, Seq: 1},
		"5106000174016bac0201":         {Op: api.OpDelete, Topic: "t", Key: "k", Pid: 300, Seq: 1},
		"510800017405":                 {Op: api.OpReplay, Topic: "t", Offset: 5},
		"5109000174016b":               {Op: api.OpSnapshot, Topic: "t", Key: "k"},
		"510a000174ffffffffffffffff7f": {Op: api.OpSubscribe, Topic: "t", Offset: lastNumber},
		"510b0009":                     {Op: api.OpUnsubscribe, Number: 9},
		"510c000167":                   {Op: api.OpJoin, Key: "g"},
		"510d00017401670501":           {Op: api.OpCommit, Topic: "t", Key: "g", Offset: 5, Number: 1},
		"510e0001740167":               {Op: api.OpPosition, Topic: "t", Key: "g"},
		"510f000174":                   {Op: api.OpStat, Topic: "t"},
		"510500000000" + "0000":        {Op: api.OpPut},
		"510500" + "01ff" + "0200c5" + "0151" + "0000": {Op: api.OpPut, Topic: "\xff", Key: "\x00\xc5", Value: "Q"},
	} {
		raw, _ := hex.DecodeString(body)
		frame := slowFrame(raw)
		b, e := wire.EncodeRequest(r)
		wantFrame(t, body, b, e, frame)
		if back, e := wire.DecodeRequest(frame); back != r || e != api.OK {
			t.Errorf("DecodeRequest of %s: %s, %d", body, brief(back), e)
		}
	}
}

// unlike is a list of pieces with another one at a place.
func unlike(list []piece, at int, b []byte) []byte {
	list = append([]piece{}, list...)
	list[at] = piece{b: b}
	return slowFrame(join(list))
}

// longer is a short number in a form of one byte more.
func longer(b []byte) []byte {
	b = bytes.Clone(b)
	b[len(b)-1] |= 0x80
	return append(b, 0)
}

func TestRequestsWithNumbersThatAreNone(t *testing.T) {
	for _, r := range requests() {
		list := slowRequest(r)
		for at, p := range list {
			if !p.number {
				continue
			}
			what := fmt.Sprintf("%s: piece %d", brief(r), at)
			wantUnread(t, what+" longer", unlike(list, at, longer(p.b)), api.ErrRequest, api.ErrResponse)
			for _, great := range []uint64{1 << 63, 1<<63 + 1, 1<<64 - 1} {
				wantUnread(t, what+" too great", unlike(list, at, short(great).b), api.ErrRequest, api.ErrResponse)
			}
			wantUnread(t, what+" above 64 bits", unlike(list, at, append(bytes.Repeat([]byte{0xff}, 9), 2)), api.ErrRequest, api.ErrResponse)
		}
	}
}

func TestRequestsWithIdsThatAreTooGreat(t *testing.T) {
	for op := range usage() {
		list := slowRequest(api.Request{Op: op})
		for _, id := range []uint64{1 << 32, 1<<32 + 7, 1 << 40, 1<<64 - 1} {
			wantUnread(t, fmt.Sprintf("operation %d, Id %d", op, id), unlike(list, 2, short(id).b), api.ErrRequest, api.ErrResponse)
		}
	}
}

func TestRequestsWithTextsThatAreTooLong(t *testing.T) {
	for op := range usage() {
		for _, field := range []string{"Topic", "Key", "Value"} {
			if !uses(op, field) {
				continue
			}
			for _, n := range []int{most(field) + 1, most(field) + 2, 2000} {
				r := with(api.Request{Op: op}, field, strings.Repeat("x", n))
				wantUnread(t, fmt.Sprintf("operation %d, %s of %d", op, field, n), slowFrame(join(slowRequest(r))), api.ErrRequest, api.ErrResponse)
			}
		}
	}
}

func TestRequestsWithOtherHeads(t *testing.T) {
	for _, r := range []api.Request{{Op: api.OpPing}, {Id: 7, Op: api.OpGet, Topic: "t", Key: "k"}} {
		body := join(slowRequest(r))
		for first := range 256 {
			if first == 0x51 {
				continue
			}
			body[0] = byte(first)
			wantUnread(t, fmt.Sprintf("mark %x", first), slowFrame(body), api.ErrRequest, api.ErrResponse)
		}
	}
	for op := range 256 {
		if _, ok := usage()[op]; ok {
			continue
		}
		for _, behind := range [][]byte{{}, {0}, {0, 0}, {7, 1, 't', 1, 'k'}} {
			wantUnread(t, fmt.Sprintf("operation %d", op), slowFrame(append([]byte{0x51, byte(op)}, behind...)), api.ErrRequest, api.ErrResponse)
		}
	}
}

func TestRequestsThatEndElsewhere(t *testing.T) {
	for _, r := range requests() {
		body := join(slowRequest(r))
		step := 1 + len(body)/40 // of long texts not every place
		for n := len(body) - 1; n > 0; n -= step {
			wantUnread(t, brief(r)+" cut", slowFrame(body[:n]), api.ErrRequest, api.ErrResponse)
		}
		for _, behind := range []byte{0, 1, 0x51, 0x80, 0xff} {
			wantUnread(t, brief(r)+" and more", slowFrame(append(bytes.Clone(body), behind)), api.ErrRequest, api.ErrResponse)
		}
	}
}

// A frame is looked at ahead of what is in it.
func TestFramesOfRequestsThatAreNone(t *testing.T) {
	body := []byte{0x51, 99}
	frame := slowFrame(body)
	wantUnread(t, "a right frame of no request", frame, api.ErrRequest, api.ErrResponse)
	frame[8]++
	wantUnread(t, "a wrong frame of no request", frame, api.ErrFrame, api.ErrFrame)
	wantUnread(t, "bytes", []byte(probe.Text(1, 50)), api.ErrFrame, api.ErrFrame)
}
