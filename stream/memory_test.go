package stream_test

import (
	"fmt"
	"reflect"
	"runtime"
	"testing"

	"chronicle/api"
	"chronicle/probe"
	"chronicle/stream"
)

// held is how many bytes hang on a value, beside its own numbers: of lists and texts, with their room.
func held(t *testing.T, v reflect.Value) int {
	t.Helper()
	n := 0
	switch v.Kind() {
	case reflect.Pointer:
		if !v.IsNil() {
			n = held(t, v.Elem())
		}
	case reflect.Struct:
		for i := range v.NumField() {
			n += held(t, v.Field(i))
		}
	case reflect.String:
		n = v.Len()
	case reflect.Array:
		n = int(v.Type().Size())
	case reflect.Slice:
		n = v.Cap() * int(v.Type().Elem().Size())
		if k := v.Type().Elem().Kind(); k != reflect.Uint8 {
			t.Fatalf("a reader keeps a list of %v", k)
		}
	case reflect.Map, reflect.Func, reflect.Chan, reflect.Interface, reflect.UnsafePointer:
		t.Fatalf("a reader keeps a %v", v.Kind())
	}
	return n
}

// 17.7: a reader never holds more than limit bytes.
func TestHeld(t *testing.T) {
	for _, limit := range limits() {
		r := reader(t, limit)
		feed := func(what string, chunk []byte) {
			t.Helper()
			r.Feed(chunk)
			if n := held(t, reflect.ValueOf(r)); n > limit {
				t.Fatalf("limit %d, %s: it holds %d bytes", limit, what, n)
			}
			if n := r.Waiting(); n >= limit {
				t.Fatalf("limit %d, %s: %d wait", limit, what, n)
			}
		}
		feed("nothing", nil)
		for range 3 {
			full := long(limit)
			feed("all but one byte", full[:limit-1])
			feed("a frame's end, and frames", join(full[limit-1:], full, full, frame("hi"), full[:limit/2]))
			feed("its end", full[limit/2:])
			for range 100 {
				feed("frames", join(frame("hi"), full, frame("ho")))
			}
			feed("too long", join(head(100000), make([]byte, 99000)))
			feed("and its end", join(make([]byte, 1004), full[:7]))
			feed("the rest", full[7:])
		}
		want(t, "dead", r.Dead(), false)
		feed("a great length", head(maxLength))
		for range 20 {
			feed("passed over", make([]byte, 1<<20))
		}
		r = reader(t, limit)
		feed("given up", []byte{0})
		for range 20 {
			feed("behind the end", make([]byte, 1<<20))
			want(t, "bytes that are held behind the end", held(t, reflect.ValueOf(r)), 0)
		}
	}
}

// What hangs on many readers that have been fed much is no more than their memories.
func TestHeldByMany(t *testing.T) {
	heap := func() uint64 {
		var m runtime.MemStats
		runtime.GC()
		runtime.GC()
		runtime.ReadMemStats(&m)
		return m.HeapAlloc
	}
	const many = 400
	var list []*stream.Reader
	before := heap()
	for i := range many {
		r := reader(t, 64)
		chunk := join(long(64), long(50000), long(64), long(30)[:10+i%20])
		r.Feed(chunk)
		r.Feed([]byte(probe.Text(uint64(i), i%2)))
		list = append(list, r)
	}
	after := heap()
	if after > before && after-before > many*1000 {
		t.Errorf("%d readers of 64 bytes hold %d bytes", many, after-before)
	}
	runtime.KeepAlive(list)
}

// A chunk is neither changed nor kept, the room behind its end included.
func TestChunksAreNotKept(t *testing.T) {
	hi := frame("hi")
	b := join(hi, other(hi, 9, 1), long(64), join(head(100), make([]byte, 104)), hi, hi, []byte("dead"))
	wanted := slow(b, 64).list
	for size := 1; size <= len(b); size++ {
		r := reader(t, 64)
		var list []api.Framed
		for _, part := range bytewise(b, size) {
			chunk, unchanged := probe.Roomy(string(part))
			list = append(list, r.Feed(chunk)...)
			if !unchanged() {
				t.Fatalf("chunks of %d: one is changed", size)
			}
			probe.Scribble(chunk)
		}
		if !same(list, wanted) {
			t.Fatalf("chunks of %d: %s, want %s", size, brief(list), brief(wanted))
		}
	}
}

// One chunk's memory may be used for the next one.
func TestOneBuffer(t *testing.T) {
	b := join(long(64), long(40), long(20), long(64), long(64)[:50])
	buffer := make([]byte, 13)
	r := reader(t, 64)
	var list []api.Framed
	for from := 0; from < len(b); {
		n := copy(buffer, b[from:])
		list = append(list, r.Feed(buffer[:n])...)
		from += n
	}
	if !same(list, slow(b, 64).list) || r.Waiting() != 50 {
		t.Errorf("%s, %d wait", brief(list), r.Waiting())
	}
}

// spoil writes over all that was answered, the room behind the ends of the bodies and of the list too.
func spoil(list []api.Framed) {
	for _, piece := range list {
		probe.Scribble(append(piece.Body, "and more"...))
		probe.Scribble(piece.Body)
	}
	probe.Scribble(append(list, api.Framed{}))
	probe.Scribble(list)
}

func TestWhatIsToldIsNew(t *testing.T) {
	b := join(frame("one"), frame("two"), other(frame("hi"), 9, 1), long(64), long(100), frame("end"), frame("part")[:12])
	wanted := slow(b, 64)
	for _, size := range []int{1, 12, 13, 30, len(b)} {
		r, twin := reader(t, 64), reader(t, 64)
		for _, chunk := range bytewise(b, size) {
			spoil(r.Feed(chunk))
			twin.Feed(chunk)
		}
		wantFeed(t, fmt.Sprint("chunks of ", size), r, frame("part")[12:], 0, api.OK, told("part", int64(len(b)-12)))
		wantFeed(t, fmt.Sprint("another reader, chunks of ", size), twin, frame("part")[12:], 0, api.OK, told("part", int64(len(b)-12)))
	}
	first, _ := stream.Split(b, 64)
	second, _ := stream.Split(b, 64)
	spoil(first)
	if !same(second, wanted.list) {
		t.Errorf("another answer: %s", brief(second))
	}
	wantSplit(t, "a later answer", 64, b)
	if !same(slow(b, 64).list, wanted.list) {
		t.Error("what was handed in is changed")
	}
}

// No two bodies share memory: each is written over, with the room behind it, and the others stay.
func TestBodiesApart(t *testing.T) {
	b := join(frame("one"), frame("two"), long(64), frame("three"), other(long(30), 9, 1), frame("four"))
	wanted := slow(b, 64).list
	for i := range wanted {
		list, _ := stream.Split(b, 64)
		probe.Scribble(append(list[i].Body, "and more, and more"...))
		probe.Scribble(list[i].Body)
		rest := copied(list)
		others := copied(wanted)
		rest[i].Body, others[i].Body = nil, nil
		if !same(rest, others) {
			t.Errorf("body %d shares memory: %s", i, brief(rest))
		}
	}
}

// R2: what a call answers hangs on what it is handed alone, and on its reader.
func TestCallsLeaveNothingBehind(t *testing.T) {
	b := join(frame("one"), long(65), frame("two"), []byte{0})
	wanted := slow(b, 64)
	r := reader(t, 64)
	for i, chunk := range bytewise(b, 5) {
		stream.Split([]byte{1, 2, 3}, 64)
		stream.New(63)
		reader(t, 100).Feed(long(300))
		stream.Cuts(10, []int{i})
		r.Feed(chunk)
		r.Waiting()
		r.End()
		wantSplit(t, "in between", 64, b)
	}
	wantStand(t, "at the end", r, wanted.waiting, wanted.end)
}

// Who asks how a reader stands changes nothing.
func TestAskingChangesNothing(t *testing.T) {
	hi := frame("hi")
	r := reader(t, 64)
	for at := range 3 * len(hi) {
		for range 3 {
			r.Waiting()
			r.End()
			r.Dead()
		}
		i := at % len(hi)
		var list []api.Framed
		waiting, end := i+1, api.ErrShort
		if i == len(hi)-1 {
			list, waiting, end = []api.Framed{told("hi", int64(at-i))}, 0, api.OK
		}
		wantFeed(t, fmt.Sprint("byte ", at), r, hi[i:i+1], waiting, end, list...)
	}
}
