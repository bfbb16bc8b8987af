package octet_test

import (
	"bytes"
	"math"
	"slices"
	"strings"
	"testing"

	"chronicle/api"
	"chronicle/octet"
)

func kindsOf(items []api.Item) []int {
	var kinds []int
	for _, item := range items {
		kinds = append(kinds, item.Kind)
	}
	return kinds
}

// 1.10
func TestPack(t *testing.T) {
	for _, c := range []struct {
		item api.Item
		want []byte
	}{
		{api.Item{Kind: api.IByte}, []byte{0}},
		{api.Item{Kind: api.IByte, N: 255}, []byte{255}},
		{api.Item{Kind: api.IUvarint, N: 300}, []byte{0xac, 2}},
		{api.Item{Kind: api.IUvarint, N: math.MaxUint64}, []byte{255, 255, 255, 255, 255, 255, 255, 255, 255, 1}},
		{api.Item{Kind: api.IVarint, N: 5}, []byte{5}},
		{api.Item{Kind: api.IVarint, N: 1 << 63}, []byte{128, 128, 128, 128, 128, 128, 128, 128, 128, 1}},
		{api.Item{Kind: api.IU32, N: 0x01020304}, []byte{1, 2, 3, 4}},
		{api.Item{Kind: api.IU32, N: math.MaxUint32}, []byte{255, 255, 255, 255}},
		{api.Item{Kind: api.IU64, N: 0x0102030405060708}, []byte{1, 2, 3, 4, 5, 6, 7, 8}},
		{api.Item{Kind: api.IU64, N: math.MaxUint64}, []byte{255, 255, 255, 255, 255, 255, 255, 255}},
		{api.Item{Kind: api.IBytes}, []byte{0}},
		{api.Item{Kind: api.IBytes, B: "hi"}, []byte{2, 'h', 'i'}},
		{api.Item{Kind: api.IBytes, B: "\x00\xff"}, []byte{2, 0, 255}},
	} {
		if b, e := octet.Pack([]api.Item{c.item}); e != api.OK || !bytes.Equal(b, c.want) {
			t.Errorf("Pack(%v) = %x, %d, want %x", c.item, b, e, c.want)
		}
	}
	b, e := octet.Pack([]api.Item{{Kind: api.IByte, N: 7}, {Kind: api.IUvarint, N: 300}, {Kind: api.IU32, N: 1}, {Kind: api.IBytes, B: "hi"}})
	if want := []byte{7, 0xac, 2, 0, 0, 0, 1, 2, 'h', 'i'}; e != api.OK || !bytes.Equal(b, want) {
		t.Errorf("Pack = %x, %d, want %x", b, e, want)
	}
	long := strings.Repeat("x", 200)
	if b, e := octet.Pack([]api.Item{{Kind: api.IBytes, B: long}}); e != api.OK || string(b) != "\xc8\x01"+long {
		t.Errorf("Pack of a long text = %x, %d", b, e)
	}
	if b, e := octet.Pack(nil); e != api.OK || len(b) != 0 {
		t.Errorf("Pack(nil) = %x, %d", b, e)
	}
}

func TestPackRefuses(t *testing.T) {
	bad := []api.Item{
		{Kind: -1}, {Kind: 6}, {Kind: 77}, {Kind: math.MaxInt}, {Kind: math.MinInt},
		{Kind: api.IByte, N: 256}, {Kind: api.IByte, N: math.MaxUint64},
		{Kind: api.IU32, N: 1 << 32}, {Kind: api.IU32, N: math.MaxUint64},
		{Kind: api.IBytes, N: 1}, {Kind: api.IBytes, N: 1, B: "x"},
		{Kind: api.IByte, B: "x"}, {Kind: api.IUvarint, B: "x"}, {Kind: api.IVarint, B: "\x00"}, {Kind: api.IU32, B: "x"}, {Kind: api.IU64, B: "x"},
	}
	good := api.Item{Kind: api.IByte, N: 7}
	for _, item := range bad {
		for _, items := range [][]api.Item{{item}, {good, item}, {item, good}} {
			if b, e := octet.Pack(items); e != api.ErrItem || len(b) != 0 {
				t.Errorf("Pack(%v) = %x, %d", items, b, e)
			}
		}
	}
}

// 1.11
func TestUnpackGivesBack(t *testing.T) {
	rows := [][]api.Item{
		nil,
		{{Kind: api.IByte, N: 7}, {Kind: api.IUvarint, N: 300}, {Kind: api.IVarint, N: 5}, {Kind: api.IU32, N: 1}, {Kind: api.IU64, N: 1 << 60}, {Kind: api.IBytes, B: "hi"}},
		{{Kind: api.IBytes}, {Kind: api.IBytes, B: "\x00"}, {Kind: api.IBytes, B: strings.Repeat("\xff", 300)}},
		{{Kind: api.IU32, N: math.MaxUint32}, {Kind: api.IByte, N: 255}, {Kind: api.IU64, N: math.MaxUint64}},
	}
	for _, v := range edges() {
		rows = append(rows, []api.Item{{Kind: api.IUvarint, N: v}, {Kind: api.IVarint, N: v}, {Kind: api.IU64, N: v}})
	}
	for _, items := range rows {
		b, e := octet.Pack(items)
		if e != api.OK {
			t.Fatalf("Pack(%v): %d", items, e)
		}
		got, spot := octet.Unpack(kindsOf(items), 300, b)
		if spot != (api.Spot{}) || !slices.Equal(got, items) {
			t.Errorf("Unpack(%x) = %v, %v, want %v", b, got, spot, items)
		}
	}
}

func TestUnpackRefuses(t *testing.T) {
	one := func(kind int) []int { return []int{kind} }
	two := []int{api.IByte, api.IBytes}
	for _, c := range []struct {
		kinds []int
		most  int
		b     string
		want  api.Spot
	}{
		{one(77), 9, "", api.Spot{Err: api.ErrItem}},
		{one(-1), 9, "\x01", api.Spot{Err: api.ErrItem}},
		{one(6), 9, "\x01", api.Spot{Err: api.ErrItem}},
		{[]int{api.IByte, 77}, 9, "", api.Spot{Err: api.ErrItem}},
		{[]int{api.IUvarint, math.MinInt}, 9, "\x80\x00", api.Spot{Err: api.ErrItem}},
		{one(api.IByte), 9, "", api.Spot{Err: api.ErrShort}},
		{one(api.IUvarint), 9, "\x80", api.Spot{Err: api.ErrShort}},
		{one(api.IUvarint), 9, "\x80\x00", api.Spot{Err: api.ErrVarint}},
		{one(api.IVarint), 9, "\xff\xff\xff\xff\xff\xff\xff\xff\xff\x02", api.Spot{Err: api.ErrVarint}},
		{one(api.IU32), 9, "\x01\x02\x03", api.Spot{Err: api.ErrShort}},
		{one(api.IU64), 9, "\x01\x02\x03\x04\x05\x06\x07", api.Spot{Err: api.ErrShort}},
		{two, 9, "\x07", api.Spot{Err: api.ErrShort, At: 1}},
		{two, 9, "\x07\x80", api.Spot{Err: api.ErrShort, At: 1}},
		{two, 9, "\x07\x80\x00", api.Spot{Err: api.ErrVarint, At: 1}},
		{two, 9, "\x07\x02h", api.Spot{Err: api.ErrShort, At: 1}},
		{two, 1, "\x07\x02hi", api.Spot{Err: api.ErrMuch, At: 1}},
		{two, 1, "\x07\x02", api.Spot{Err: api.ErrMuch, At: 1}},
		{two, 0, "\x07\x01h", api.Spot{Err: api.ErrMuch, At: 1}},
		{two, -5, "\x07\x01h", api.Spot{Err: api.ErrMuch, At: 1}},
		{two, math.MaxInt, "\x07\xff\xff\xff\xff\xff\xff\xff\xff\xff\x01", api.Spot{Err: api.ErrMuch, At: 1}},
		{two, math.MaxInt, "\x07\xff\xff\xff\xff\xff\xff\xff\xff\x7f", api.Spot{Err: api.ErrShort, At: 1}},
		{one(api.IByte), 9, "\x07\x00", api.Spot{Err: api.ErrLeft, At: 1}},
		{two, 9, "\x07\x02hi\x00\x00", api.Spot{Err: api.ErrLeft, At: 4}},
		{nil, 9, "\x00", api.Spot{Err: api.ErrLeft}},
		{[]int{api.IBytes, api.IByte, api.IU32}, 1, "\x02ab", api.Spot{Err: api.ErrMuch}},
		{[]int{api.IUvarint, api.IU32, api.IByte}, 9, "\xac\x02\x01\x02\x03", api.Spot{Err: api.ErrShort, At: 2}},
	} {
		if items, spot := octet.Unpack(c.kinds, c.most, []byte(c.b)); len(items) != 0 || spot != c.want {
			t.Errorf("Unpack(%v, %d, %x) = %v, %v, want %v", c.kinds, c.most, c.b, items, spot, c.want)
		}
	}
}

func TestUnpackOfMostZero(t *testing.T) {
	for _, most := range []int{0, -1, math.MinInt} {
		items, spot := octet.Unpack([]int{api.IBytes}, most, []byte{0})
		if spot != (api.Spot{}) || !slices.Equal(items, []api.Item{{Kind: api.IBytes}}) {
			t.Errorf("an empty text with most %d: %v, %v", most, items, spot)
		}
	}
	if items, spot := octet.Unpack(nil, -1, nil); len(items) != 0 || spot != (api.Spot{}) {
		t.Errorf("no kinds, no bytes: %v, %v", items, spot)
	}
}

// Whatever Unpack takes is what Pack writes, and nothing that begins otherwise or ends elsewhere is taken.
func TestUnpackTakesOneForm(t *testing.T) {
	kinds := []int{api.IUvarint, api.IBytes, api.IByte}
	for x := range 1 << 20 {
		b := []byte{byte(x), byte(x >> 8 & 3), byte(x >> 10), byte(x >> 18)}
		items, spot := octet.Unpack(kinds, 2, b)
		if spot.Err != api.OK {
			if len(items) != 0 {
				t.Fatalf("Unpack(%x) = %v beside %v", b, items, spot)
			}
			continue
		}
		if again, e := octet.Pack(items); e != api.OK || !bytes.Equal(again, b) || !slices.Equal(kindsOf(items), kinds) {
			t.Fatalf("Unpack(%x) = %v, and Pack of it %x, %d", b, items, again, e)
		}
	}
}
