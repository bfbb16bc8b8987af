package keydir

import (
	"iter"

	"chronicle/api"
	"chronicle/octet"
)

// Len tells how many keys there are.
func (d *Dir) Len() int { return d.top().size() }

// Rank tells how many keys are below one.
func (d *Dir) Rank(key string) int {
	below := 0
	for n := d.top(); n != nil; {
		if octet.Compare(n.own.Key, key) < 0 {
			below += n.left.size() + 1
			n = n.right
		} else {
			n = n.left
		}
	}
	return below
}

// Nth tells the key with so many below it.
func (d *Dir) Nth(n int) (api.KeyEntry, bool) {
	at := d.top()
	for at != nil {
		before := at.left.size()
		if n == before {
			return at.own, true
		}
		if n < before {
			at = at.left
		} else {
			n -= before + 1
			at = at.right
		}
	}
	return api.KeyEntry{}, false
}

// Range tells keys from lo on and below hi (empty: no end), at most so many.
func (d *Dir) Range(lo, hi string, limit int) []api.KeyEntry {
	var list []api.KeyEntry
	for key, e := range d.All(lo, hi) {
		if len(list) >= limit {
			break
		}
		list = append(list, api.KeyEntry{Key: key, E: e})
	}
	return list
}

// All goes through the keys from lo on and below hi.
func (d *Dir) All(lo, hi string) iter.Seq2[string, api.Entry] {
	return func(yield func(string, api.Entry) bool) {
		d.top().walk(lo, hi, yield)
	}
}

// Prefix goes through the keys that begin so.
func (d *Dir) Prefix(p string) iter.Seq2[string, api.Entry] {
	return func(yield func(string, api.Entry) bool) {
		// Where After has no answer, all that is not below p begins with it: no byte is above 255.
		end, _ := octet.After(p)
		for key, e := range d.All(p, end) {
			if !yield(key, e) {
				return
			}
		}
	}
}
