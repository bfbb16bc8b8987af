package segment_test

import (
	"bytes"
	"encoding/hex"
	"fmt"
	"math"
	"slices"
	"testing"

	"chronicle/api"
	"chronicle/probe"
	"chronicle/record"
	"chronicle/segment"
)

// 5.1
func TestName(t *testing.T) {
	for _, c := range []struct {
		topic, number int
		name          string
	}{
		{3, 12, "t3.12.seg"},
		{0, 0, "t0.0.seg"},
		{0, 1, "t0.1.seg"},
		{10, 0, "t10.0.seg"},
		{1<<30 - 1, 1<<30 - 1, "t1073741823.1073741823.seg"},
		{-1, 3, ""},
		{3, -1, ""},
		{1 << 30, 3, ""},
		{3, 1 << 30, ""},
		{math.MaxInt, 3, ""},
		{3, math.MinInt, ""},
		{-1, 1 << 30, ""},
	} {
		want(t, "Name", segment.Name(c.topic, c.number), c.name)
	}
}

func noHead() api.Spot { return api.Spot{Err: api.ErrSegment} }

// 5.2
func TestLookOfExamples(t *testing.T) {
	b, _ := hex.DecodeString("ad0000000300000007000000000000000a")
	wantLook(t, "a head", withSum(b), api.SegInfo{Topic: 3, Number: 7, Base: 10, Size: 21, Last: 9}, nil, api.Spot{At: 21})
	wantLook(t, "its first 20 bytes", withSum(b)[:20], api.SegInfo{}, nil, noHead())
	wantLook(t, "nil", nil, api.SegInfo{}, nil, noHead())
	wantLook(t, "no bytes", []byte{}, api.SegInfo{}, nil, noHead())

	list := few()
	sealed := whole(list, true)
	wantLook(t, "records", whole(list, false), told(list, false), list, api.Spot{At: len(sealed) - 17})
	wantLook(t, "sealed", sealed, told(list, true), list, api.Spot{At: len(sealed)})
	wantLook(t, "sealed, and a byte more", append(bytes.Clone(sealed), 0), told(list, true), list, api.Spot{Err: api.ErrSegment, At: len(sealed)})
	wantLook(t, "sealed, without the last byte", sealed[:len(sealed)-1], told(list, false), list, api.Spot{Err: api.ErrSegment, At: len(sealed) - 17})
	wantLook(t, "sealed without records", whole(nil, true), told(nil, true), nil, api.Spot{At: 38})
}

func TestLookOfHeads(t *testing.T) {
	for _, c := range []struct {
		topic, number uint32
		base          uint64
		right         bool
	}{
		{0, 0, 0, true},
		{1<<30 - 1, 1<<30 - 1, 1 << 40, true},
		{1 << 30, 0, 0, false},
		{0, 1 << 30, 0, false},
		{1 << 31, 0, 0, false},
		{0, math.MaxUint32, 0, false},
		{0, 0, 1<<40 + 1, false},
		{0, 0, 1 << 63, false},
		{0, 0, math.MaxUint64, false},
		{0, 0, 1<<63 - 1, false},
	} {
		info, spot := api.SegInfo{}, noHead()
		if c.right {
			info = api.SegInfo{Topic: int(c.topic), Number: int(c.number), Base: int64(c.base), Size: 21, Last: int64(c.base) - 1}
			spot = api.Spot{At: 21}
		}
		wantLook(t, "a head", slowHead(c.topic, c.number, c.base), info, nil, spot)
	}
	for mark := range 256 {
		b := withSum(append([]byte{byte(mark)}, head()[1:17]...))
		if mark != 0xad {
			wantLook(t, "another mark, with a right sum", b, api.SegInfo{}, nil, noHead())
		}
	}
	wantLook(t, "records without a head", laid(nil, few()...), api.SegInfo{}, nil, noHead())
	wantLook(t, "a byte ahead", append([]byte{0}, whole(few(), true)...), api.SegInfo{}, nil, noHead())
}

func TestLookOfFirstParts(t *testing.T) {
	list := few()
	b := whole(list, true)
	for n := range len(b) + 1 {
		if n < 21 {
			wantLook(t, "a piece of a head", b[:n], api.SegInfo{}, nil, noHead())
			continue
		}
		have := 0
		for have < len(list) && len(laid(head(), list[:have+1]...)) <= n {
			have++
		}
		info := told(list[:have], n == len(b))
		spot := api.Spot{At: info.Size}
		if info.Size < n {
			spot.Err = api.ErrSegment
		}
		wantLook(t, fmt.Sprint("the first ", n), b[:n], info, list[:have], spot)
	}
}

// What stands behind the part that is right, it may be whole on its own.
func TestLookEndsAtOrder(t *testing.T) {
	b := laid(head(), put(12, "a", "x"))
	one := []api.Record{put(12, "a", "x")}
	cut := func(at int) api.Spot { return api.Spot{Err: api.ErrSegment, At: at} }
	for _, off := range []int64{0, 9, 11, 12} {
		wantLook(t, "an offset that does not rise", laid(b, put(off, "b", "y"), put(20, "c", "z")), told(one, false), one, cut(len(b)))
	}
	two := append(one, put(13, "b", "y"))
	wantLook(t, "one that rises", laid(b, two[1]), told(two, false), two, api.Spot{At: len(laid(b, two[1]))})
	for _, off := range []int64{0, 9} {
		wantLook(t, "a first offset below the base", laid(head(), put(off, "b", "y"), put(10, "c", "z")), told(nil, false), nil, cut(21))
	}
	first := []api.Record{put(10, "c", "z")}
	wantLook(t, "a first offset at the base", laid(head(), first...), told(first, false), first, api.Spot{At: len(laid(head(), first...))})

	least := laid(slowHead(3, 7, 0), put(0, "c", "z"))
	if i, l, s := segment.Look(least); i.Count != 1 || i.Last != 0 || len(l) != 1 || s != (api.Spot{At: len(least)}) {
		t.Errorf("the offset 0 at the base 0: %v, %v", i, s)
	}
	great := laid(slowHead(3, 7, 1<<40), put(1<<40-1, "c", "z"))
	if i, l, s := segment.Look(great); i.Count != 0 || i.Last != 1<<40-1 || len(l) != 0 || s != cut(21) {
		t.Errorf("the greatest offset, below the greatest base: %v, %v", i, s)
	}
}

func TestLookOfTails(t *testing.T) {
	for _, list := range [][]api.Record{nil, few()[:1], few()} {
		b, info := whole(list, false), told(list, false)
		count, last := uint32(info.Count), uint64(info.Last)
		cut := api.Spot{Err: api.ErrSegment, At: len(b)}
		for _, c := range []struct {
			count uint32
			last  uint64
		}{{count + 1, last}, {count - 1, last}, {count, last + 1}, {count, last - 1}, {0, 0}, {count + 1<<16, last}, {count, last + 1<<32}, {count, last | 1<<63}} {
			wantLook(t, "a tail with other numbers", slowTail(b, c.count, c.last), info, list, cut)
		}
		sealed := slowTail(b, count, last)
		for mark := range 256 {
			odd := bytes.Clone(sealed[:len(sealed)-4])
			odd[len(b)] = byte(mark)
			if mark != 0xae {
				wantLook(t, "a tail with another mark", withSum(odd), info, list, cut)
			}
		}
		alone := withSum(bytes.Clone(sealed[len(b) : len(sealed)-4]))
		wantLook(t, "a tail with the sum of itself alone", append(bytes.Clone(b), alone...), info, list, cut)
		more := api.Spot{Err: api.ErrSegment, At: len(sealed)}
		wantLook(t, "a tail twice", append(bytes.Clone(sealed), sealed[len(b):]...), told(list, true), list, more)
		wantLook(t, "two tails", slowTail(sealed, count, last), told(list, true), list, more)
		wantLook(t, "a record behind the tail", laid(sealed, put(500, "z", "z")), told(list, true), list, more)
	}
	b := slowTail(slowHead(0, 0, 0), 0, math.MaxUint64)
	want(t, "the last offset -1", hex.EncodeToString(b[26:34]), "ffffffffffffffff")
	if i, _, s := segment.Look(b); i != (api.SegInfo{Size: 38, Last: -1, Sealed: true}) || s != (api.Spot{At: 38}) {
		t.Errorf("sealed without records, with the base 0: %v, %v", i, s)
	}
}

// isRight tells whether all of b is a segment, sealed or not, by what record.Scan takes.
func isRight(b []byte) (info api.SegInfo, list []api.Record, ok bool) {
	if len(b) < 21 || !bytes.Equal(b[:21], slowHead(3, 7, 10)) {
		return info, nil, false
	}
	rest, sealed := b[21:], false
	if n := len(rest) - 17; n >= 0 && rest[n] == 0xae {
		rest, sealed = rest[:n], true
	}
	list, _, e := record.Scan(rest)
	if e != api.OK || len(list) > 0 && list[0].Offset < 10 {
		return info, nil, false
	}
	return told(list, sealed), list, bytes.Equal(b, whole(list, sealed))
}

// slowLook tells the longest first part by trying each.
func slowLook(b []byte) (api.SegInfo, []api.Record, api.Spot) {
	for n := len(b); n > 0; n-- {
		if info, list, ok := isRight(b[:n]); ok {
			spot := api.Spot{At: n}
			if n < len(b) {
				spot.Err = api.ErrSegment
			}
			return info, list, spot
		}
	}
	return api.SegInfo{}, nil, noHead()
}

// Pieces of segments are laid one behind the other as they come.
func TestLookAgainstEachFirstPart(t *testing.T) {
	tails := [][]byte{whole(nil, true)[21:], whole(few()[:1], true)[36:]}
	sealed := 0
	for seed := range uint64(400) {
		b, last := head(), int64(9)
		var list []api.Record
		for _, x := range probe.Noise(seed+1, int(seed%12)) {
			last += int64(x>>8%4) - 1
			r := put(max(last, 0), string([]byte{byte('a' + x>>12%3)}), probe.Text(x, int(x>>16%9)))
			list = append(list, r)
			switch x >> 30 % 16 {
			case 0:
				b = append(b, tails[x>>40%2]...)
			case 1:
				b = append(b, probe.Text(x, int(x>>40%4))...)
			case 2:
				b = b[:max(21, len(b)-int(x>>40%20))]
			case 3:
				b = slowTail(b, uint32(len(list)), uint64(r.Offset))
			default:
				b = laid(b, r)
			}
		}
		if _, l, ok := isRight(b); ok && seed%3 == 0 {
			b = append(whole(l, true), probe.Text(seed, int(seed%2))...)
		}
		info, l, spot := slowLook(b)
		wantLook(t, fmt.Sprint("pieces ", seed), b, info, l, spot)
		if info.Sealed {
			sealed++
		}
	}
	if sealed < 20 {
		t.Errorf("%d of them sealed", sealed)
	}
}

func TestLookOfAnyBytes(t *testing.T) {
	for seed := range uint64(300) {
		b := []byte(probe.Text(seed, int(seed)))
		wantLook(t, "any bytes", b, api.SegInfo{}, nil, noHead())
		at := append(head(), b...)
		if i, l, s := segment.Look(at); i != told(nil, false) || len(l) != 0 || s.At != 21 || (s.Err == api.OK) != (len(b) == 0) {
			t.Errorf("a head and %d bytes: %v, %v", len(b), i, s)
		}
	}
	long := whole(nil, false)
	var list []api.Record
	for i := range int64(5000) {
		list = append(list, put(10+i, "k", "v"))
	}
	long = laid(long, list...)
	if i, l, s := segment.Look(long); !slices.Equal(l, placed(list)) || i != told(list, false) || s != (api.Spot{At: len(long)}) {
		t.Errorf("5000 records: %v, %v", i, s)
	}
}

// 5.13
func TestDamageIsFound(t *testing.T) {
	for _, list := range [][]api.Record{nil, few()[:1], few()} {
		for _, sealed := range []bool{false, true} {
			b := whole(list, sealed)
			for at := range b {
				for c := 1; c < 256; c++ {
					b[at] ^= byte(c)
					wantDamage(t, b, at, list, sealed)
					b[at] ^= byte(c)
				}
			}
		}
	}
}

// wantDamage fails unless Look finds that the byte at a place is another one.
func wantDamage(t *testing.T, b []byte, at int, list []api.Record, sealed bool) {
	t.Helper()
	info, l, spot := segment.Look(b)
	if at < 21 {
		if info != (api.SegInfo{}) || len(l) > 0 || spot != noHead() {
			t.Errorf("byte %d of the head: %v, %d records, %v", at, info, len(l), spot)
		}
		return
	}
	var ahead []api.Placed
	for _, p := range placed(list) {
		if p.Pos+p.Len <= at {
			ahead = append(ahead, p)
		}
	}
	if len(l) < len(ahead) || !slices.Equal(l[:len(ahead)], ahead) {
		t.Errorf("byte %d: %d records, want the %d ahead of it", at, len(l), len(ahead))
	}
	if sealed && info.Sealed && spot.Err == api.OK {
		t.Errorf("byte %d: it is still a sealed segment", at)
	}
	if spot.Err == api.OK && len(l) == len(list) {
		t.Errorf("byte %d: nothing is found", at)
	}
}
