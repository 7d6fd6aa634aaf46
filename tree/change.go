package tree

import (
	"slices"

	"transept/api"
	"transept/node"
)

// edit answers what becomes of a leaf, in which a key has that place, or would have it if it is not there.
type edit func(leaf node.Node, at int, there bool) node.Node

// change is a walk and the nodes that are to be pages behind those of its tree.
type change struct {
	*walk
	added []node.Node
}

// branch is a Kid and the key ahead of it, which says nothing of a node's first Kid.
type branch struct {
	ahead string
	kid   int
}

// changed answers the tree in which the leaf that key belongs to is edited. As a node has two Kids at least and a leaf
// one pair, a tree of 4096 pairs is 13 deep at most: two nodes at each depth and a root above them are fewer than 40.
func (w *walk) changed(key string, do edit) (Tree, api.Errno) {
	c := change{walk: w}
	root := c.root(c.rebuilt(w.top(), key, do))
	next := c.Next + len(c.added)
	if next > api.MaxPages {
		return Tree{}, api.ErrFull
	}
	t := c.copied()
	for i, n := range c.added {
		// What is added may be, and its Kids are pages below next.
		data, _ := node.Encode(n)
		t.Pages = append(t.Pages, Page{ID: c.Next + i, Data: data})
	}
	t.Root, t.Next = root, next
	return t, api.OK
}

// rebuilt answers n with that leaf edited below it, the nodes between added. It may not be: it may have grown beyond
// a page, or be a leaf without pairs or an inner node without keys.
func (c *change) rebuilt(n node.Node, key string, do edit) node.Node {
	at, there, _ := node.Find(n, key)
	if n.Leaf {
		return do(n, at, there)
	}
	kid := c.rebuilt(c.seen[n.Kids[at]], key, do)
	from, to := at, at+1
	if isBare(kid) {
		from = max(at-1, 0)
		to = from + 2
		kid = c.joined(n, from, at, kid)
	}
	branches := branchesOf(n)
	now := c.laid(kid, branches[from].ahead)
	return innerOf(slices.Replace(branches, from, to, now...))
}

// joined answers one node of n's Kids at a place and behind it, one of which is now another. A node without keys
// may not be, but the leaves below it must stay as deep as they are.
func (c *change) joined(n node.Node, from int, at int, now node.Node) node.Node {
	left, right := now, now
	if from == at {
		right = c.seen[n.Kids[from+1]]
	} else {
		left = c.seen[n.Kids[from]]
	}
	behind := branchesOf(right)
	behind[0].ahead = n.Keys[from]
	return innerOf(append(branchesOf(left), behind...))
}

// root adds the node that stands above all others, and answers the root's number.
func (c *change) root(top node.Node) int {
	if isBare(top) {
		return top.Kids[0]
	}
	branches := c.laid(top, "")
	switch len(branches) {
	case 0:
		return noRoot
	case 1:
		return branches[0].kid
	}
	return c.add(innerOf(branches))
}

// laid adds n, in two if it has grown beyond a page, and answers what its parent has of it, the first with that key
// ahead: nothing of a leaf without pairs.
func (c *change) laid(n node.Node, ahead string) []branch {
	if len(n.Keys) == 0 {
		return nil
	}
	if node.Size(n) <= maxNode {
		return []branch{{ahead: ahead, kid: c.add(n)}}
	}
	left, between, right := cut(n, middle(n))
	return []branch{{ahead: ahead, kid: c.add(left)}, {ahead: between, kid: c.add(right)}}
}

// add adds n, and answers its number.
func (c *change) add(n node.Node) int {
	c.added = append(c.added, n)
	return c.Next + len(c.added) - 1
}

// isBare tells whether n is an inner node without keys: one Kid is left to it.
func isBare(n node.Node) bool {
	return !n.Leaf && len(n.Keys) == 0
}

// branchesOf answers an inner node's Kids, each with the key ahead of it.
func branchesOf(n node.Node) []branch {
	branches := []branch{{kid: n.Kids[0]}}
	for i, key := range n.Keys {
		branches = append(branches, branch{ahead: key, kid: n.Kids[i+1]})
	}
	return branches
}

// innerOf answers the inner node of these Kids.
func innerOf(branches []branch) node.Node {
	var n node.Node
	for i, b := range branches {
		if i > 0 {
			n.Keys = append(n.Keys, b.ahead)
		}
		n.Kids = append(n.Kids, b.kid)
	}
	return n
}

// middle answers where to cut n so that the greater part is as small as can be: parts by octets, not by keys, as no
// more than one pair or key beyond a page then leaves room in both.
func middle(n node.Node) int {
	best, least := 0, node.Size(n)
	for at := range n.Keys {
		left, _, right := cut(n, at)
		if greater := max(node.Size(left), node.Size(right)); greater < least {
			best, least = at, greater
		}
	}
	return best
}

// cut answers n's keys ahead of a place, the key there, and those behind: a leaf's other part has that key, too.
func cut(n node.Node, at int) (node.Node, string, node.Node) {
	if n.Leaf {
		left := node.Node{Leaf: true, Keys: n.Keys[:at], Values: n.Values[:at]}
		right := node.Node{Leaf: true, Keys: n.Keys[at:], Values: n.Values[at:]}
		return left, n.Keys[at], right
	}
	left := node.Node{Keys: n.Keys[:at], Kids: n.Kids[:at+1]}
	right := node.Node{Keys: n.Keys[at+1:], Kids: n.Kids[at+1:]}
	return left, n.Keys[at], right
}
