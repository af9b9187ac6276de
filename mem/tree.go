package mem

import (
	"iter"

	"fascicle/api"
)

// node is a pair, and those ahead of it (left) and behind it (right). No node is a tree of no pairs.
// Levels keep the tree low, whatever the order in which keys come: a left one is one below its node's, a right one is that or the same, but not twice in a row; what is not there has 0.
type node struct {
	pair        api.Pair
	level       int
	left, right *node
}

// find answers the node of that key, or none.
func (n *node) find(key string) *node {
	for n != nil && n.pair.Key != key {
		if key < n.pair.Key {
			n = n.left
		} else {
			n = n.right
		}
	}
	return n
}

// add answers the tree with a pair whose key it has not yet.
func (n *node) add(p api.Pair) *node {
	if n == nil {
		return &node{pair: p, level: 1}
	}
	if p.Key < n.pair.Key {
		n.left = n.left.add(p)
	} else {
		n.right = n.right.add(p)
	}
	return n.skew().split()
}

// skew answers the tree without a left one of its own level.
func (n *node) skew() *node {
	l := n.left
	if l == nil || l.level < n.level {
		return n
	}
	n.left, l.right = l.right, n
	return l
}

// split answers the tree without two right ones in a row of its own level.
func (n *node) split() *node {
	r := n.right
	if r == nil || r.right == nil || r.right.level < n.level {
		return n
	}
	n.right, r.left = r.left, n
	r.level++
	return r
}

// since goes through the pairs from that key on, in order.
func (n *node) since(from string) iter.Seq[api.Pair] {
	return func(yield func(p api.Pair) bool) {
		n.tell(from, yield)
	}
}

// tell yields the pairs from that key on, and answers whether more are wanted. What stands ahead of the key is not gone through.
func (n *node) tell(from string, yield func(p api.Pair) bool) bool {
	if n == nil {
		return true
	}
	if n.pair.Key >= from && (!n.left.tell(from, yield) || !yield(n.pair)) {
		return false
	}
	return n.right.tell(from, yield)
}
