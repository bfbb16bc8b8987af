package keydir

import (
	"testing"

	"chronicle/api"
)

// even is the key of the n-th gap between the keys of a grown tree, rising; odd that of its n-th key.
func even(n int) string { return string([]byte{byte(2 * n)}) + "k" }
func odd(n int) string  { return string([]byte{byte(2*n + 1)}) + "k" }

// inBalance tells whether sides of so many keys may hang on one node.
func inBalance(left, right int) bool { return left+1 <= 3*(right+1) && right+1 <= 3*(left+1) }

// grown is all trees of n keys, from that one on, that are in balance.
func grown(from, n int, known map[[2]int][]*node) []*node {
	if n == 0 {
		return []*node{nil}
	}
	if list, ok := known[[2]int{from, n}]; ok {
		return list
	}
	var list []*node
	for left := range n {
		if !inBalance(left, n-1-left) {
			continue
		}
		for _, l := range grown(from, left, known) {
			for _, r := range grown(from+left+1, n-1-left, known) {
				own := api.KeyEntry{Key: odd(from + left), E: api.Entry{Seg: from + left}}
				list = append(list, &node{own: own, count: n, left: l, right: r})
			}
		}
	}
	known[[2]int{from, n}] = list
	return list
}

// wantBalance fails unless each node of a tree tells how many keys hang on it, and no side is too heavy; it tells the keys.
func wantBalance(t *testing.T, what string, n *node) []string {
	t.Helper()
	if n == nil {
		return nil
	}
	left, right := wantBalance(t, what, n.left), wantBalance(t, what, n.right)
	if n.count != len(left)+len(right)+1 {
		t.Errorf("%s: %q has %d and %d keys and tells %d", what, n.own.Key, len(left), len(right), n.count)
	}
	if !inBalance(len(left), len(right)) {
		t.Errorf("%s: %q has %d and %d keys", what, n.own.Key, len(left), len(right))
	}
	return append(append(left, n.own.Key), right...)
}

// Whatever tree in balance there is, of few keys, and whatever key comes to it or goes: it is in balance still.
func TestBalance(t *testing.T) {
	known := map[[2]int][]*node{}
	for n := range 14 {
		for _, tree := range grown(0, n, known) {
			for i := range n + 1 {
				if keys := wantBalance(t, "a key more", tree.with(even(i), api.Entry{})); len(keys) != n+1 {
					t.Errorf("%d keys and one more are %q", n, keys)
				}
			}
			for i := range n {
				if keys := wantBalance(t, "a key less", tree.without(odd(i))); len(keys) != n-1 {
					t.Errorf("%d keys without one are %q", n, keys)
				}
				if keys := wantBalance(t, "a new entry", tree.with(odd(i), api.Entry{At: 9})); len(keys) != n {
					t.Errorf("%d keys, one of them with a new entry, are %q", n, keys)
				}
			}
		}
	}
}
