package keydir

import (
	"strings"

	"chronicle/api"
	"chronicle/octet"
)

// node is a key, with those below it hanging on its left and those above it on its right; nil is a tree without keys. No node is changed once it is made: frozen dirs, and goings through that are under way, may hang on it.
type node struct {
	own         api.KeyEntry
	count       int
	left, right *node
}

// How much more may hang on one side of a node than on the other. The two go together: with these one turn, or a double one, is enough behind each change, and with hardly any others.
const (
	lean  = 3 // a side has at most so many times the weight of the other one
	inner = 2 // from so many times the outer weight on, the inner side goes up
)

// over makes the node of a key with these two sides.
func over(own api.KeyEntry, left, right *node) *node {
	return &node{own: own, count: left.size() + right.size() + 1, left: left, right: right}
}

func (n *node) size() int {
	if n == nil {
		return 0
	}
	return n.count
}

func (n *node) weight() int { return n.size() + 1 }

// find tells a key's node, or nil.
func (n *node) find(key string) *node {
	for n != nil {
		c := octet.Compare(key, n.own.Key)
		if c == 0 {
			break
		}
		if c < 0 {
			n = n.left
		} else {
			n = n.right
		}
	}
	return n
}

// with is the tree in which the key has the entry e.
func (n *node) with(key string, e api.Entry) *node {
	if n == nil {
		// A copy, for the key may be a piece of a long text, and that is not to be kept for it.
		return over(api.KeyEntry{Key: strings.Clone(key), E: e}, nil, nil)
	}
	switch octet.Compare(key, n.own.Key) {
	case -1:
		return balanced(n.own, n.left.with(key, e), n.right)
	case 1:
		return balanced(n.own, n.left, n.right.with(key, e))
	}
	return over(api.KeyEntry{Key: n.own.Key, E: e}, n.left, n.right)
}

// without is the tree that has no more a key that is in it.
func (n *node) without(key string) *node {
	switch octet.Compare(key, n.own.Key) {
	case -1:
		return balanced(n.own, n.left.without(key), n.right)
	case 1:
		return balanced(n.own, n.left, n.right.without(key))
	}
	if n.right == nil {
		return n.left
	}
	next, right := n.right.cut()
	return balanced(next, n.left, right)
}

// cut takes the lowest key out.
func (n *node) cut() (api.KeyEntry, *node) {
	if n.left == nil {
		return n.own, n.right
	}
	lowest, left := n.left.cut()
	return lowest, balanced(n.own, left, n.right)
}

// balanced makes the node of a key with two sides that were in balance till one of them got or lost a key.
func balanced(own api.KeyEntry, left, right *node) *node {
	if right.weight() > lean*left.weight() {
		return turnLeft(own, left, right)
	}
	if left.weight() > lean*right.weight() {
		return turnRight(own, left, right)
	}
	return over(own, left, right)
}

func turnLeft(own api.KeyEntry, left, right *node) *node {
	mid := right.left
	if mid.weight() < inner*right.right.weight() {
		return over(right.own, over(own, left, mid), right.right)
	}
	return over(mid.own, over(own, left, mid.left), over(right.own, mid.right, right.right))
}

func turnRight(own api.KeyEntry, left, right *node) *node {
	mid := left.right
	if mid.weight() < inner*left.left.weight() {
		return over(left.own, left.left, over(own, mid, right))
	}
	return over(mid.own, over(left.own, left.left, mid.left), over(own, mid.right, right))
}

// walk gives the keys that are not below lo and, if hi is not empty, below hi, till yield wants no more: it tells whether it does.
func (n *node) walk(lo, hi string, yield func(string, api.Entry) bool) bool {
	if n == nil {
		return true
	}
	if octet.Compare(n.own.Key, lo) < 0 {
		return n.right.walk(lo, hi, yield)
	}
	if hi != "" && octet.Compare(n.own.Key, hi) >= 0 {
		return n.left.walk(lo, hi, yield)
	}
	return n.left.walk(lo, hi, yield) && yield(n.own.Key, n.own.E) && n.right.walk(lo, hi, yield)
}
