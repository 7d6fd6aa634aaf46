package tree

import (
	"slices"

	"transept/api"
	"transept/node"
)

// walk is a tree with the nodes of all pages that its Root reaches, how many pairs they have, and how deep the leaves
// lie.
type walk struct {
	Tree
	seen  map[int]node.Node
	pairs int
	depth int
}

// walkOf answers the walk over t, or ErrState if t may not be.
func walkOf(t Tree) (*walk, api.Errno) {
	w := &walk{Tree: t, seen: map[int]node.Node{}}
	if !w.numbered() {
		return nil, api.ErrState
	}
	if w.Root != noRoot && !w.reach(w.Root, 1, span{}) {
		return nil, api.ErrState
	}
	return w, api.OK
}

// walkFor answers the walk over t for a call that asks for key.
func walkFor(t Tree, key string) (*walk, api.Errno) {
	w, err := walkOf(t)
	if err != api.OK {
		return nil, err
	}
	if len(key) < 1 || len(key) > api.MaxKey {
		return nil, api.ErrKey
	}
	return w, api.OK
}

// reach reads the page of that number and all below it, and tells whether they may be, their keys lying in s.
func (w *walk) reach(id int, depth int, s span) bool {
	data, there := w.data(id)
	if _, again := w.seen[id]; again || !there || depth > maxDepth {
		return false
	}
	n, err := node.Decode(data)
	if err != api.OK || slices.ContainsFunc(n.Keys, s.lacks) {
		return false
	}
	w.seen[id] = n
	if n.Leaf {
		return w.count(len(n.Keys), depth)
	}
	for i, kid := range n.Kids {
		if !w.reach(kid, depth+1, s.ofKid(n.Keys, i)) {
			return false
		}
	}
	return true
}

// count tells whether a leaf of so many pairs may be at that depth, behind those that were counted.
func (w *walk) count(pairs int, depth int) bool {
	if w.pairs == 0 {
		w.depth = depth
	}
	w.pairs += pairs
	return pairs > 0 && depth == w.depth && w.pairs <= api.MaxKeys
}

// top answers the root's node: of an empty tree a leaf without pairs, so that there is one to go on from.
func (w *walk) top() node.Node {
	if w.Root == noRoot {
		return node.Node{Leaf: true}
	}
	return w.seen[w.Root]
}

// value answers key's value, and whether it is there.
func (w *walk) value(key string) (string, bool) {
	n := w.top()
	at, there, _ := node.Find(n, key)
	for !n.Leaf {
		n = w.seen[n.Kids[at]]
		at, there, _ = node.Find(n, key)
	}
	if !there {
		return "", false
	}
	return n.Values[at], true
}

// eachLeaf does something to each leaf from n on, by their keys.
func (w *walk) eachLeaf(n node.Node, do func(leaf node.Node)) {
	if n.Leaf {
		do(n)
		return
	}
	for _, kid := range n.Kids {
		w.eachLeaf(w.seen[kid], do)
	}
}
