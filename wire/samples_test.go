package wire_test

import (
	"bytes"
	"fmt"
	"math"
	"reflect"
	"slices"
	"strings"
	"testing"

	"chronicle/api"
	"chronicle/probe"
	"chronicle/record"
	"chronicle/wire"
)

// The greatest numbers that may be.
const (
	lastId     = math.MaxUint32
	lastNumber = math.MaxInt64
	maxFrame   = 4096
)

// usage is which fields each operation uses, as the chapter's table tells it.
func usage() map[int]string {
	return map[int]string{
		1:  "",
		2:  "Topic Number",
		3:  "Topic",
		4:  "Key",
		5:  "Topic Key Value Pid Seq",
		6:  "Topic Key Pid Seq",
		7:  "Topic Key",
		8:  "Topic Offset",
		9:  "Topic Key",
		10: "Topic Offset",
		11: "Number",
		12: "Key",
		13: "Topic Key Offset Number",
		14: "Topic Key",
		15: "Topic",
	}
}

// fields is all fields that an operation may use, in the order in which they are written.
func fields() []string {
	return []string{"Topic", "Key", "Value", "Offset", "Number", "Pid", "Seq"}
}

// most is how many bytes a text may have; 0 of a number.
func most(field string) int {
	return map[string]int{"Topic": 24, "Key": 64, "Value": 1024}[field]
}

func uses(op int, field string) bool {
	return slices.Contains(strings.Fields(usage()[op]), field)
}

// with is a request with another field, which is a text or a number.
func with(r api.Request, field string, v any) api.Request {
	reflect.ValueOf(&r).Elem().FieldByName(field).Set(reflect.ValueOf(v))
	return r
}

func textIn(r api.Request, field string) string {
	return reflect.ValueOf(r).FieldByName(field).String()
}

func numberIn(r api.Request, field string) int64 {
	return reflect.ValueOf(r).FieldByName(field).Int()
}

// greatest is the request of an operation whose fields are all as great as they may be.
func greatest(op int) api.Request {
	r := api.Request{Id: lastId, Op: op}
	for _, field := range strings.Fields(usage()[op]) {
		if n := most(field); n > 0 {
			r = with(r, field, probe.Text(uint64(n), n))
		} else {
			r = with(r, field, int64(lastNumber))
		}
	}
	return r
}

// requests is requests that may be: of each operation the least, the greatest, one with each field alone, and some in between.
func requests() []api.Request {
	var list []api.Request
	for op := range 16 {
		if op == 0 {
			continue
		}
		list = append(list, api.Request{Op: op}, api.Request{Id: 300, Op: op}, greatest(op))
		for _, field := range strings.Fields(usage()[op]) {
			for _, v := range ofField(field) {
				list = append(list, with(api.Request{Id: 7, Op: op}, field, v))
			}
		}
	}
	return list
}

// ofField is what may stand in a field.
func ofField(field string) []any {
	if n := most(field); n > 0 {
		return []any{"t", "\x00", "\xff\xfe not a name", strings.Repeat("x", n), probe.Text(9, n-1)}
	}
	return []any{int64(1), int64(127), int64(128), int64(300), int64(1 << 40), int64(lastNumber)}
}

func value(off int64, key, v string) api.Record {
	return api.Record{Kind: api.KValue, Offset: off, Time: 300, Key: key, Value: v}
}

func tomb(off int64, key string) api.Record {
	return api.Record{Kind: api.KTombstone, Offset: off, Key: key}
}

// largest is a record of as many bytes as one may have.
func largest(seed uint64) api.Record {
	return api.Record{
		Kind: api.KValue, Offset: 1<<40 - 1, Time: 1<<50 - 1, Pid: 1<<32 - 1, Seq: 1<<40 - 1,
		Key: probe.Text(seed, 64), Value: probe.Text(seed+1, 1024),
	}
}

// sized is a record of just so many bytes: 13 beside its key and its value.
func sized(t *testing.T, size int) api.Record {
	t.Helper()
	r := api.Record{Kind: api.KValue, Key: "k", Value: probe.Text(5, max(size-14, 0))}
	if n := record.Size(r); n != size {
		t.Fatalf("a record has %d bytes, and %d are wanted", n, size)
	}
	return r
}

// together is records that have just so many bytes together.
func together(t *testing.T, size int) []api.Record {
	t.Helper()
	var list []api.Record
	for size > 1900 {
		list = append(list, sized(t, 900))
		size -= 900
	}
	return append(list, sized(t, size/2), sized(t, size-size/2))
}

// responses is responses that may be, the edges of all their parts among them.
func responses(t *testing.T) []api.Response {
	t.Helper()
	long := strings.Repeat("n", 24)
	list := []api.Response{
		{Id: lastId, Op: 64, Code: 11, Offset: math.MinInt64, Number: math.MaxInt64, More: true},
		{Id: lastId, Op: 64, Code: 11, Offset: math.MaxInt64, Number: math.MinInt64},
		{Id: 7, Op: 7, Offset: -1},
		{Id: 7, Op: 7, Number: -1},
		{Id: 128, Op: 7, Offset: 64, Number: -65, More: true},
		{Op: 4, Names: []string{""}},
		{Op: 4, Names: []string{"a", "", "\xff\x00"}},
		{Op: 4, Names: slices.Repeat([]string{long}, 16), More: true},
		{Op: 8, Records: []api.Record{value(0, "k", "v")}},
		{Op: 8, Records: []api.Record{value(5, "k", ""), tomb(2, "\x00"), value(5, "k", "")}},
		{Op: 64, Records: []api.Record{largest(1), largest(2), largest(3)}, Names: []string{long}},
		{Op: 64, Records: together(t, room(api.Response{Op: 64}))},
		{Op: 64, Records: slices.Repeat([]api.Record{tomb(1, "k")}, 200)},
		{Id: lastId, Op: 1, Code: 3, Offset: 1 << 40, Number: 9, More: true, Names: []string{"t", "u"}, Records: []api.Record{value(1<<39, "k", strings.Repeat("v", 500))}},
	}
	for op := range 16 {
		for code := range 12 {
			if op > 0 {
				list = append(list, api.Response{Id: uint32(code), Op: op, Code: code})
			}
		}
	}
	return append(list, api.Response{Op: 64})
}

// room is how many bytes of records a response has room for, if they are fewer than 128.
func room(r api.Response) int { return maxFrame - 9 - len(join(slowResponse(r))) }

func sameResponse(a, b api.Response) bool {
	named, other := a.Names, b.Names
	recs, others := a.Records, b.Records
	a.Names, b.Names, a.Records, b.Records = nil, nil, nil, nil
	return reflect.DeepEqual(a, b) && slices.Equal(named, other) && slices.Equal(recs, others)
}

// brief tells a thing, cut short.
func brief(thing any) string { return fmt.Sprintf("%.200q", fmt.Sprintf("%+v", thing)) }

func wantFrame(t *testing.T, what string, got []byte, errno api.Errno, wanted []byte) {
	t.Helper()
	if errno != api.OK || !bytes.Equal(got, wanted) {
		t.Errorf("%s: %.60x, %d, want %.60x", what, got, errno, wanted)
	}
}

func wantNoBytes(t *testing.T, what string, got []byte, errno, wanted api.Errno) {
	t.Helper()
	if len(got) != 0 || errno != wanted {
		t.Errorf("%s: %.60x, %d, want %d", what, got, errno, wanted)
	}
}

// wantNoRequest fails unless no call takes a request.
func wantNoRequest(t *testing.T, what string, r api.Request) {
	t.Helper()
	want(t, what+": CheckRequest", wire.CheckRequest(r), api.ErrRequest)
	b, e := wire.EncodeRequest(r)
	wantNoBytes(t, what+": EncodeRequest", b, e, api.ErrRequest)
}

// wantNoResponse fails unless no call takes a response.
func wantNoResponse(t *testing.T, what string, r api.Response, errno api.Errno) {
	t.Helper()
	want(t, what+": CheckResponse", wire.CheckResponse(r), errno)
	b, e := wire.EncodeResponse(r)
	wantNoBytes(t, what+": EncodeResponse", b, e, errno)
}

// wantUnread fails unless bytes are refused as a request, and as a response.
func wantUnread(t *testing.T, what string, b []byte, asRequest, asResponse api.Errno) {
	t.Helper()
	if r, e := wire.DecodeRequest(b); r != (api.Request{}) || e != asRequest {
		t.Errorf("%s: DecodeRequest(%.60x) = %s, %d, want %d", what, b, brief(r), e, asRequest)
	}
	if r, e := wire.DecodeResponse(b); !sameResponse(r, api.Response{}) || e != asResponse {
		t.Errorf("%s: DecodeResponse(%.60x) = %s, %d, want %d", what, b, brief(r), e, asResponse)
	}
}

// want fails if an answer is another one than is wanted.
func want[T comparable](t *testing.T, what string, got, wanted T) {
	t.Helper()
	if got != wanted {
		t.Errorf("%s: %v, want %v", what, got, wanted)
	}
}
