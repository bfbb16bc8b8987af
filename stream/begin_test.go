package stream_test

import (
	"fmt"
	"testing"

	"chronicle/api"
	"chronicle/stream"
)

// 17.1
func TestNew(t *testing.T) {
	for _, limit := range append(limits(), 66, 127, 128, 4094) {
		r := reader(t, limit)
		what := fmt.Sprint("limit ", limit)
		wantStand(t, what, r, 0, api.OK)
		wantFeed(t, what, r, frame("hi"), 0, api.OK, told("hi", 0))
	}
}

func TestEveryLimit(t *testing.T) {
	for limit := -100; limit < 4300; limit++ {
		r, e := stream.New(limit)
		if ok := limit >= 64 && limit <= maxFrame; (r != nil) != ok || (e == api.OK) != ok {
			t.Errorf("New(%d) = %v, %d", limit, r, e)
		}
	}
}

func TestNewOfWrongLimits(t *testing.T) {
	for _, limit := range wrongLimits() {
		if r, e := stream.New(limit); r != nil || e != api.ErrArg {
			t.Errorf("New(%d) = %v, %d", limit, r, e)
		}
	}
}

// Two readers have nothing in common.
func TestReadersApart(t *testing.T) {
	one, two := reader(t, 64), reader(t, 64)
	hi, ho := frame("hi"), frame("ho")
	for at := range hi {
		want := []api.Framed{}
		waiting, end := at+1, api.ErrShort
		if at == len(hi)-1 {
			want, waiting, end = append(want, told("hi", 0)), 0, api.OK
		}
		wantFeed(t, "one", one, hi[at:at+1], waiting, end, want...)
		if len(want) > 0 {
			want[0] = told("ho", 0)
		}
		wantFeed(t, "two", two, ho[at:at+1], waiting, end, want...)
	}
	wantFeed(t, "one", one, []byte{1}, 0, api.ErrEnd, givenUp(11))
	wantFeed(t, "two", two, ho, 0, api.OK, told("ho", 11))
}

// 17.4
func TestNilReader(t *testing.T) {
	for name, r := range map[string]*stream.Reader{"nil": nil, "zero": {}} {
		wantStand(t, name, r, 0, api.ErrEnd)
		for _, chunk := range [][]byte{nil, {}, {0xc5}, {0}, frame("hi"), head(0), head(200), long(5000), make([]byte, 100000)} {
			wantFeed(t, name, r, chunk, 0, api.ErrEnd)
		}
	}
}
