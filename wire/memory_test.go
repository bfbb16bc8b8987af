package wire_test

import (
	"bytes"
	"strings"
	"testing"

	"chronicle/api"
	"chronicle/probe"
	"chronicle/wire"
)

// full is a response with all that one may have.
func full() api.Response {
	return api.Response{
		Id: 9, Op: api.OpDeliver, Offset: 5, Number: -1, More: true,
		Names:   []string{"alpha", "beta"},
		Records: []api.Record{value(1, "k", "v"), tomb(2, "l"), value(3, "m", strings.Repeat("w", 100))},
	}
}

// framesOf is the frames of a request, and of a response.
func framesOf(t *testing.T) (string, string) {
	t.Helper()
	request, e := wire.EncodeRequest(api.Request{Id: 7, Op: api.OpPut, Topic: "topic", Key: "key", Value: "value"})
	want(t, "EncodeRequest", e, api.OK)
	response, e := wire.EncodeResponse(full())
	want(t, "EncodeResponse", e, api.OK)
	return string(request), string(response)
}

// 16.8
func TestBytesHandedInAreNotChanged(t *testing.T) {
	request, response := framesOf(t)
	spoilt := request[:12] + "?" + request[13:]
	for name, use := range map[string]func(b []byte){
		"Frame": func(b []byte) { frame, _ := wire.Frame(b); probe.Scribble(frame) },
		"Head":  func(b []byte) { wire.Head(b) },
		"Body":  func(b []byte) { body, _ := wire.Body(b); probe.Scribble(body) },
		"DecodeRequest": func(b []byte) {
			wire.DecodeRequest(b)
		},
		"DecodeResponse": func(b []byte) {
			r, _ := wire.DecodeResponse(b)
			probe.Scribble(append(r.Names, "x"))
			probe.Scribble(append(r.Records, api.Record{}))
		},
	} {
		for _, text := range []string{request, response, spoilt, "", "\xc5", request + "more", string(slowFrame([]byte("hi")))} {
			b, same := probe.Roomy(text)
			if use(b); !same() {
				t.Errorf("%s(%.30x) changes what it was handed", name, text)
			}
		}
	}
}

func TestListsHandedInAreNotChanged(t *testing.T) {
	for name, use := range map[string]func(r api.Response){
		"CheckResponse":  func(r api.Response) { wire.CheckResponse(r) },
		"EncodeResponse": func(r api.Response) { b, _ := wire.EncodeResponse(r); probe.Scribble(b) },
		"Fits":           func(r api.Response) { wire.Fits(r.Records) },
	} {
		for _, wrong := range []bool{false, true} {
			r := full()
			if wrong {
				r.Names[1], r.Records[1] = strings.Repeat("n", 30), api.Record{}
			}
			names, sameNames := probe.Spare(r.Names, "odd")
			recs, sameRecs := probe.Spare(r.Records, tomb(9, "odd"))
			r.Names, r.Records = names, recs
			if use(r); !sameNames() || !sameRecs() {
				t.Errorf("%s changes what it was handed", name)
			}
		}
	}
}

func TestNothingHandedInIsKept(t *testing.T) {
	first, second := framesOf(t)
	request, response, body := []byte(first), []byte(second), []byte("a body")
	r, _ := wire.DecodeRequest(request)
	s, _ := wire.DecodeResponse(response)
	told, _ := wire.Body(request)
	frame, _ := wire.Frame(body)
	u := full()
	sent, _ := wire.EncodeResponse(u)
	kept := bytes.Clone(told)
	for _, b := range [][]byte{request, response, body} {
		probe.Scribble(b)
	}
	probe.Scribble(u.Names)
	probe.Scribble(u.Records)
	want(t, "the request", r, api.Request{Id: 7, Op: api.OpPut, Topic: "topic", Key: "key", Value: "value"})
	want(t, "the response", sameResponse(s, full()), true)
	want(t, "the body", string(told), string(kept))
	want(t, "the frame", string(frame), string(slowFrame([]byte("a body"))))
	want(t, "the frame of a response", string(sent), second)
}

func TestWhatIsAnsweredIsNew(t *testing.T) {
	request, response := framesOf(t)
	for name, ask := range map[string]func() []byte{
		"Frame":          func() []byte { b, _ := wire.Frame([]byte("hi")); return b },
		"Body":           func() []byte { b, _ := wire.Body([]byte(request)); return b },
		"EncodeRequest":  func() []byte { b, _ := wire.EncodeRequest(api.Request{Op: api.OpGet, Topic: "t"}); return b },
		"EncodeResponse": func() []byte { b, _ := wire.EncodeResponse(full()); return b },
	} {
		first, second := ask(), ask()
		kept := bytes.Clone(second)
		probe.Scribble(append(first, "and more"...))
		probe.Scribble(first)
		want(t, name+": another answer", string(second), string(kept))
		want(t, name+": a later answer", string(ask()), string(kept))
	}
	first, e := wire.DecodeResponse([]byte(response))
	want(t, "DecodeResponse", e, api.OK)
	second, _ := wire.DecodeResponse([]byte(response))
	probe.Scribble(append(first.Names, "x"))
	probe.Scribble(first.Names)
	want(t, "its records, the names written over", first.Records[0], value(1, "k", "v"))
	probe.Scribble(append(first.Records, api.Record{}))
	probe.Scribble(first.Records)
	want(t, "another response", sameResponse(second, full()), true)
	third, _ := wire.DecodeResponse([]byte(response))
	want(t, "a later response", sameResponse(third, full()), true)
}

// R2: what a call answers hangs on what it is handed alone.
func TestCallsLeaveNothingBehind(t *testing.T) {
	request, response := framesOf(t)
	for range 3 {
		wire.DecodeRequest([]byte(response))
		wire.DecodeResponse([]byte(request))
		wire.EncodeRequest(greatest(5))
		again, other := framesOf(t)
		want(t, "the request", again, request)
		want(t, "the response", other, response)
	}
}
