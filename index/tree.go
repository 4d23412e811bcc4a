package index

import "tidemark/api"

// node is a key with its value, over the lower keys on its left and the higher ones on its right; nil is the tree without a key. A node never changes: a tree with another content shares what is the same, so that an iterator goes on over the tree that it began with.
type node[V any] struct {
	key         string
	value       V
	left, right *node[V]
	size        int // of the whole tree, this node included
}

// A tree is balanced by weight, its number of keys and one more: neither side of a node weighs more than tilt times the other. A side that came to weigh more is turned over at once, or at its inner child first if that one weighs turn times the outer one or more. With 3 and 2 a single key more or less is always mended so.
const (
	tilt = 3
	turn = 2
)

func (n *node[V]) count() int {
	if n == nil {
		return 0
	}
	return n.size
}

func (n *node[V]) weight() int { return n.count() + 1 }

// find tells the node of a key, nil if there is none.
func (n *node[V]) find(key string) *node[V] {
	for n != nil && n.key != key {
		if key < n.key {
			n = n.left
		} else {
			n = n.right
		}
	}
	return n
}

// with is the tree with a value laid under a key.
func (n *node[V]) with(key string, v V) *node[V] {
	switch {
	case n == nil:
		return &node[V]{key: key, value: v, size: 1}
	case key < n.key:
		return n.balanced(n.left.with(key, v), n.right)
	case key > n.key:
		return n.balanced(n.left, n.right.with(key, v))
	}
	return &node[V]{key: key, value: v, left: n.left, right: n.right, size: n.size}
}

// without is the tree without a key that it has.
func (n *node[V]) without(key string) *node[V] {
	switch {
	case key < n.key:
		return n.balanced(n.left.without(key), n.right)
	case key > n.key:
		return n.balanced(n.left, n.right.without(key))
	case n.left == nil:
		return n.right
	case n.right == nil:
		return n.left
	}
	next := n.right.least()
	return next.balanced(n.left, n.right.without(next.key))
}

// least tells the node of the least key of a tree that has one.
func (n *node[V]) least() *node[V] {
	for n.left != nil {
		n = n.left
	}
	return n
}

// over is a node with n's key and value over two trees.
func (n *node[V]) over(left, right *node[V]) *node[V] {
	return &node[V]{key: n.key, value: n.value, left: left, right: right, size: left.count() + 1 + right.count()}
}

// balanced is over, of two trees of which one may have a key too many or too few.
func (n *node[V]) balanced(left, right *node[V]) *node[V] {
	switch {
	case right.weight() > tilt*left.weight():
		return n.turnedLeft(left, right)
	case left.weight() > tilt*right.weight():
		return n.turnedRight(left, right)
	}
	return n.over(left, right)
}

// turnedLeft lays the keys of n, left and right out anew with a key of right on top.
func (n *node[V]) turnedLeft(left, right *node[V]) *node[V] {
	inner, outer := right.left, right.right
	if inner.weight() < turn*outer.weight() {
		return right.over(n.over(left, inner), outer)
	}
	return inner.over(n.over(left, inner.left), right.over(inner.right, outer))
}

// turnedRight is turnedLeft seen in a mirror.
func (n *node[V]) turnedRight(left, right *node[V]) *node[V] {
	outer, inner := left.left, left.right
	if inner.weight() < turn*outer.weight() {
		return left.over(outer, n.over(inner, right))
	}
	return inner.over(left.over(outer, inner.left), n.over(inner.right, right))
}

// up yields the keys in a span, rising, till yield wants no more; it tells whether yield wants more.
func (n *node[V]) up(s api.Span, yield func(string, V) bool) bool {
	if n == nil {
		return true
	}
	if n.from(s) && !n.left.up(s, yield) {
		return false
	}
	if n.from(s) && n.under(s) && !yield(n.key, n.value) {
		return false
	}
	return !n.under(s) || n.right.up(s, yield)
}

// down is up, falling.
func (n *node[V]) down(s api.Span, yield func(string, V) bool) bool {
	if n == nil {
		return true
	}
	if n.under(s) && !n.right.down(s, yield) {
		return false
	}
	if n.from(s) && n.under(s) && !yield(n.key, n.value) {
		return false
	}
	return !n.from(s) || n.left.down(s, yield)
}

// from tells whether a node's key is at or above a span's beginning: else all keys on its left are below it too.
func (n *node[V]) from(s api.Span) bool { return s.Lo <= n.key }

// under tells whether a node's key is below a span's end: else no key on its right is.
func (n *node[V]) under(s api.Span) bool { return s.Hi == "" || n.key < s.Hi }
