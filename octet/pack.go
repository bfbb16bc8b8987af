package octet

import (
	"math"

	"chronicle/api"
)

// Pack writes items.
func Pack(items []api.Item) ([]byte, api.Errno) {
	w := NewWriter()
	for _, item := range items {
		if !fits(item) {
			return nil, api.ErrItem
		}
		w.item(item)
	}
	return w.Bytes(), api.OK
}

// fits tells whether an item is one of its kind.
func fits(item api.Item) bool {
	switch item.Kind {
	case api.IByte:
		return item.N <= math.MaxUint8 && item.B == ""
	case api.IU32:
		return item.N <= math.MaxUint32 && item.B == ""
	case api.IUvarint, api.IVarint, api.IU64:
		return item.B == ""
	case api.IBytes:
		return item.N == 0
	}
	return false
}

func (w *Writer) item(item api.Item) {
	switch item.Kind {
	case api.IByte:
		w.Byte(byte(item.N))
	case api.IUvarint, api.IVarint: // N of an IVarint is the zigzag number already
		w.Uvarint(item.N)
	case api.IU32:
		w.U32(uint32(item.N))
	case api.IU64:
		w.U64(item.N)
	case api.IBytes:
		w.Text(item.B)
	}
}

// Unpack reads items of these kinds, with texts of at most so many bytes.
func Unpack(kinds []int, most int, b []byte) ([]api.Item, api.Spot) {
	for _, kind := range kinds {
		if !fits(api.Item{Kind: kind}) {
			return nil, api.Spot{Err: api.ErrItem}
		}
	}
	r := NewReader(b)
	items := make([]api.Item, 0, len(kinds))
	for _, kind := range kinds {
		items = append(items, r.item(kind, most))
	}
	if spot := r.End(); spot.Err != api.OK {
		return nil, spot
	}
	return items, api.Spot{}
}

func (r *Reader) item(kind, most int) api.Item {
	item := api.Item{Kind: kind}
	switch kind {
	case api.IByte:
		item.N = uint64(r.Byte())
	case api.IUvarint, api.IVarint:
		item.N = r.Uvarint()
	case api.IU32:
		item.N = uint64(r.U32())
	case api.IU64:
		item.N = r.U64()
	case api.IBytes:
		item.B = r.Text(most)
	}
	return item
}
