package topic

import (
	"cmp"
	"iter"
	"slices"

	"chronicle/api"
)

// spot is where a record lies in its segment.
type spot struct {
	offset   int64
	at, size int
}

// part is the spots of a segment's committed records, one behind the other.
type part []spot

// bytes is how many bytes the records have together.
func (p part) bytes() int {
	if len(p) == 0 {
		return 0
	}
	last := p[len(p)-1]
	return last.at + last.size - api.SegHead
}

// from finds the first spot whose offset is not below this one, and tells whether it is just this one.
func (p part) from(offset int64) (int, bool) {
	return slices.BinarySearchFunc(p, offset, func(s spot, offset int64) int { return cmp.Compare(s.offset, offset) })
}

// find finds the spot at a place, and tells whether there is one.
func (p part) find(at int) (int, bool) {
	return slices.BinarySearchFunc(p, at, func(s spot, at int) int { return cmp.Compare(s.at, at) })
}

// take lets a committed record count: it is left, and it is its key's entry, if there is no later one.
func (t *Topic) take(k api.KeyEntry) {
	e := k.E
	t.parts[e.Seg] = append(t.parts[e.Seg], spot{e.Offset, e.At, e.Size})
	t.index.Note(k.Key, e) // the key was checked when the record was written
	t.end = max(t.end, e.Offset+1)
}

// left goes through the records that are left with this offset or a greater one: each one's segment, and its spot there.
func (t *Topic) left(offset int64) iter.Seq2[int, spot] {
	return func(yield func(int, spot) bool) {
		for _, seg := range t.man.Segs {
			p := t.parts[seg]
			first, _ := p.from(offset)
			for _, s := range p[first:] {
				if !yield(seg, s) {
					return
				}
			}
		}
	}
}
