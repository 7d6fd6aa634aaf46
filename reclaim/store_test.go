package reclaim_test

import (
	"bytes"
	"cmp"
	"encoding/binary"
	"fmt"
	"maps"
	"math"
	"slices"
	"strings"
	"testing"

	"transept/api"
	"transept/tree"
)

const (
	mostRoots    = 16    // MaxRoots
	mostPairs    = 4096  // MaxKeys
	topNext      = 65536 // MaxPages
	longestKey   = 32    // MaxKey
	longestValue = 64    // MaxValue
)

// leafData answers the octets of a leaf of these keys, by another hand than the program's.
func leafData(keys ...string) []byte {
	b := []byte{1, byte(len(keys))}
	for _, key := range keys {
		b = append(append(b, byte(len(key))), key...)
		b = append(b, 1, 'v')
	}
	return b
}

// innerData answers an inner node's octets, by another hand: keys as one text, parted by blanks.
func innerData(keys string, kids ...int) []byte {
	between := strings.Fields(keys)
	b := []byte{0, byte(len(between))}
	for i, kid := range kids {
		b = binary.BigEndian.AppendUint32(b, uint32(kid))
		if i < len(between) {
			b = append(append(b, byte(len(between[i]))), between[i]...)
		}
	}
	return b
}

// kidPlaces answers where in a node's octets its Kids stand.
func kidPlaces(data []byte) []int {
	if data[0] == 1 {
		return nil
	}
	at := 2
	l := []int{at}
	for range int(data[1]) {
		at += 4 + 1 + int(data[at+4])
		l = append(l, at)
	}
	return l
}

func kidsOf(data []byte) []int {
	var l []int
	for _, at := range kidPlaces(data) {
		l = append(l, int(binary.BigEndian.Uint32(data[at:])))
	}
	return l
}

// store answers one of these pages, by their numbers, with that Root, Next being just behind them.
func store(root int, pages map[int][]byte) tree.Tree {
	x := tree.Tree{Root: root, Next: 1}
	for _, id := range slices.Sorted(maps.Keys(pages)) {
		x.Pages = append(x.Pages, tree.Page{ID: id, Data: pages[id]})
		x.Next = id + 1
	}
	return x
}

func withRoot(x tree.Tree, root int) tree.Tree {
	x.Root = root
	return x
}

func withNext(x tree.Tree, next int) tree.Tree {
	x.Next = next
	return x
}

// withPage answers x with that page in its place, or with those octets in it if it is there.
func withPage(x tree.Tree, id int, data []byte) tree.Tree {
	pages := pagesOf(x)
	pages[id] = data
	y := store(x.Root, pages)
	y.Next = max(x.Next, y.Next)
	return y
}

// without answers x without the page of that number.
func without(x tree.Tree, id int) tree.Tree {
	x.Pages = slices.DeleteFunc(slices.Clone(x.Pages), func(p tree.Page) bool { return p.ID == id })
	return x
}

// only answers x with the pages of these numbers alone.
func only(x tree.Tree, ids []int) tree.Tree {
	x.Pages = slices.DeleteFunc(slices.Clone(x.Pages), func(p tree.Page) bool { return !slices.Contains(ids, p.ID) })
	return x
}

func pagesOf(x tree.Tree) map[int][]byte {
	pages := map[int][]byte{}
	for _, p := range x.Pages {
		pages[p.ID] = p.Data
	}
	return pages
}

// reachedFrom answers the numbers of all pages that are reached from one of roots, rising, by another hand.
func reachedFrom(x tree.Tree, roots ...int) []int {
	pages := pagesOf(x)
	var reached [topNext + 1]bool
	for todo := slices.Clone(roots); len(todo) > 0; {
		id := todo[0]
		todo = todo[1:]
		if id != 0 && !reached[id] {
			reached[id] = true
			todo = append(todo, kidsOf(pages[id])...)
		}
	}
	var l []int
	for id, is := range reached {
		if is {
			l = append(l, id)
		}
	}
	return l
}

func same(x, y tree.Tree) bool {
	return x.Root == y.Root && x.Next == y.Next && slices.EqualFunc(x.Pages, y.Pages, func(p, q tree.Page) bool {
		return p.ID == q.ID && bytes.Equal(p.Data, q.Data)
	})
}

// show answers what a test tells of a store.
func show(x tree.Tree) string {
	s := fmt.Sprintf("{root %d, next %d, %d pages: %x}", x.Root, x.Next, len(x.Pages), x.Pages[:min(len(x.Pages), 8)])
	return s[:min(len(s), 300)]
}

func text(n int) string { return strings.Repeat("reclaims", n/8+1)[:n] }

// dice answers numbers below n, the same ones for the same seed.
func dice(seed uint64) func(n int) int {
	return func(n int) int {
		seed = seed*6364136223846793005 + 1442695040888963407
		return int(seed>>33) % n
	}
}

// moment is a root and the pairs that it has.
type moment struct {
	root int
	have map[string]string
}

func asPairs(m map[string]string) []api.Pair {
	var l []api.Pair
	for _, key := range slices.Sorted(maps.Keys(m)) {
		l = append(l, api.Pair{Key: key, Value: m[key]})
	}
	return l
}

// change puts or deletes a key by chance among so many in x and in have, and answers what follows: long keys and
// values make a tree deep.
func change(t *testing.T, roll func(n int) int, x tree.Tree, have map[string]string, keys, deletes int) tree.Tree {
	t.Helper()
	i := roll(keys)
	key := fmt.Sprintf("%03d", i) + text(i*7%(longestKey-2))
	var err api.Errno
	if roll(100) < deletes {
		delete(have, key)
		x, _, err = tree.Delete(x, key)
	} else {
		have[key] = text(roll(longestValue + 1))
		x, err = tree.Put(x, key, have[key])
	}
	if err != api.OK {
		t.Fatalf("the test's own fault: %d", err)
	}
	return x
}

// played answers the store of so many changes by chance, and each moment of it, the empty one ahead.
func played(t *testing.T, roll func(n int) int, changes, keys, deletes int) (tree.Tree, []moment) {
	t.Helper()
	x, have := tree.New(), map[string]string{}
	l := []moment{{0, map[string]string{}}}
	for range changes {
		x = change(t, roll, x, have, keys, deletes)
		l = append(l, moment{x.Root, maps.Clone(have)})
	}
	return x, l
}

// rootsOf answers the moments' roots.
func rootsOf(moments []moment) []int {
	var l []int
	for _, m := range moments {
		l = append(l, m.root)
	}
	return l
}

// some answers n of these by chance, one or another of them twice; of none there are none.
func some[E any](roll func(n int) int, l []E, n int) []E {
	var few []E
	for i := 0; i < n && len(l) > 0; i++ {
		few = append(few, l[roll(len(l))])
	}
	return few
}

// deep answers how deep x's leaves lie.
func deep(x tree.Tree) int {
	pages := pagesOf(x)
	n := 0
	for kids := []int{x.Root}; len(kids) > 0 && kids[0] != 0; n++ {
		kids = kidsOf(pages[kids[0]])
	}
	return n
}

// twoWays answers a store so deep, every inner node having two Kids and every leaf one pair.
func twoWays(levels int) tree.Tree {
	pages := map[int][]byte{}
	first := map[int]string{}
	var level []int
	for i := range 1 << (levels - 1) {
		id := i + 1
		first[id] = fmt.Sprintf("%05d", i)
		pages[id] = leafData(first[id])
		level = append(level, id)
	}
	for len(level) > 1 {
		var up []int
		for pair := range slices.Chunk(level, 2) {
			id := len(pages) + 1
			pages[id], first[id] = above(first, pair), first[pair[0]]
			up = append(up, id)
		}
		level = up
	}
	return store(level[0], pages)
}

// renumbered answers x and its roots with other numbers for all pages, in another order and with gaps between.
func renumbered(roll func(n int) int, x tree.Tree, roots []int) (tree.Tree, []int) {
	most := 3*len(x.Pages) + 5
	free := make([]int, most)
	for i := range free {
		free[i] = i + 1
	}
	for i := range free {
		j := i + roll(most-i)
		free[i], free[j] = free[j], free[i]
	}
	now := map[int]int{0: 0}
	for i, p := range x.Pages {
		now[p.ID] = free[i]
	}
	y := tree.Tree{Root: now[x.Root], Next: most + 1}
	for _, p := range x.Pages {
		data := bytes.Clone(p.Data)
		for _, at := range kidPlaces(data) {
			kid := now[int(binary.BigEndian.Uint32(data[at:]))]
			binary.BigEndian.PutUint32(data[at:], uint32(kid))
		}
		y.Pages = append(y.Pages, tree.Page{ID: now[p.ID], Data: data})
	}
	slices.SortFunc(y.Pages, func(p, q tree.Page) int { return cmp.Compare(p.ID, q.ID) })
	var l []int
	for _, root := range roots {
		l = append(l, now[root])
	}
	return y, l
}

// forest is a store of several trees that share pages: at 20 the leaves 4, 12 and 3, at 7 the leaves 12 and 9, at 15
// both 7 and 20, at 6 a leaf for itself; 30 is reached from nowhere and no node.
func forest() tree.Tree {
	return store(20, map[int][]byte{
		3:  leafData("r", "s"),
		4:  leafData("a"),
		6:  leafData("alone"),
		7:  innerData("z", 12, 9),
		9:  leafData("z"),
		11: leafData("t"),
		12: leafData("m", "n"),
		15: innerData("t", 20, 16),
		16: innerData("u", 11, 17),
		17: leafData("u"),
		20: innerData("m r", 4, 12, 3),
		30: []byte("no node"),
	})
}

// named is a store and what is told of it.
type named struct {
	what string
	tree.Tree
}

// mayNotBe are stores with one thing wrong.
func mayNotBe() []named {
	f := forest()
	l := []named{
		{"nothing", tree.Tree{}},
		{"a root without its page", without(f, 20)},
		{"a leaf lacking", without(f, 12)},
		{"the root is no node", withRoot(f, 30)},
		{"a leaf without pairs", withPage(f, 3, leafData())},
		{"a leaf whose keys fall", withPage(f, 3, leafData("s", "r"))},
		{"a leaf with keys of another place", withPage(f, 3, leafData("a"))},
		{"a leaf cut short", withPage(f, 3, leafData("r")[:4])},
		{"a page reached twice", withPage(f, 20, innerData("m r", 4, 12, 12))},
		{"the root below itself", withPage(f, 20, innerData("m r", 4, 12, 20))},
		{"leaves at two depths", withPage(f, 20, innerData("m t", 4, 12, 16))},
		{"Next at a page", withNext(f, 30)},
		{"Next too high", withNext(f, topNext+1)},
		{"pages out of order", tree.Tree{Next: 9, Pages: []tree.Page{{ID: 2, Data: leafData("a")}, {ID: 1, Data: leafData("a")}}}},
		{"a page twice", tree.Tree{Next: 9, Pages: []tree.Page{{ID: 2, Data: leafData("a")}, {ID: 2, Data: leafData("a")}}}},
		{"4097 pairs", withRoot(wide(mostPairs+1), widest)},
	}
	for _, n := range []int{-1, 0, math.MinInt, math.MaxInt} {
		l = append(l, named{fmt.Sprintf("Next %d", n), withNext(f, n)})
		l = append(l, named{fmt.Sprintf("a stray page %d", n), withPage(withRoot(f, 0), n, leafData("a"))})
		if n != 0 {
			l = append(l, named{fmt.Sprintf("root %d", n), withRoot(f, n)})
		}
	}
	return l
}

// The root of a wide store.
const widest = 40000

// wide answers an empty store with so many pairs, about 4096, below the page widest: more than 4096 are no tree.
func wide(pairs int) tree.Tree {
	pages := map[int][]byte{}
	first := map[int]string{}
	var level []int
	for i := 0; i < pairs; i += 17 {
		var keys []string
		for j := i; j < min(i+17, pairs); j++ {
			keys = append(keys, fmt.Sprintf("%05d", j))
		}
		id := 1000 - i/17
		pages[id], first[id] = leafData(keys...), keys[0]
		level = append(level, id)
	}
	var inner []int
	for part := range slices.Chunk(level, 22) {
		inner = append(inner, 2000+len(inner))
		pages[inner[len(inner)-1]] = above(first, part)
		first[inner[len(inner)-1]] = first[part[0]]
	}
	pages[widest] = above(first, inner)
	return store(0, pages)
}

// above answers the octets of the node of these Kids, of which each has that first key.
func above(first map[int]string, kids []int) []byte {
	var keys []string
	for _, kid := range kids[1:] {
		keys = append(keys, first[kid])
	}
	return innerData(strings.Join(keys, " "), kids...)
}
