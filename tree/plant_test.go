package tree_test

import (
	"bytes"
	"fmt"
	"slices"
	"strings"
	"testing"

	"transept/api"
	"transept/node"
	"transept/tree"
)

const (
	longestKey   = 32    // MaxKey
	longestValue = 64    // MaxValue
	mostPairs    = 4096  // MaxKeys
	topNext      = 65536 // MaxPages
	mostOctets   = 244
	mostAdded    = 40
	mostDeep     = 16
)

// plant is a node with all that is below it: a leaf's pairs, or keys with a plant ahead of, between and behind them.
type plant struct {
	pairs []api.Pair
	keys  []string
	kids  []plant
}

// pairsOf answers pairs of texts as a=1.
func pairsOf(texts ...string) []api.Pair {
	var l []api.Pair
	for _, s := range texts {
		key, value, _ := strings.Cut(s, "=")
		l = append(l, api.Pair{Key: key, Value: value})
	}
	return l
}

func leaf(texts ...string) plant { return plant{pairs: pairsOf(texts...)} }

func inner(keys string, kids ...plant) plant { return plant{keys: strings.Fields(keys), kids: kids} }

func text(n int) string { return strings.Repeat("transept", n/8+1)[:n] }

// leafData answers a leaf's octets, by another hand than the program's; of one that may not be, too.
func leafData(pairs []api.Pair) []byte {
	var b bytes.Buffer
	b.Write([]byte{1, byte(len(pairs))})
	for _, p := range pairs {
		b.WriteByte(byte(len(p.Key)))
		b.WriteString(p.Key)
		b.WriteByte(byte(len(p.Value)))
		b.WriteString(p.Value)
	}
	return b.Bytes()
}

// innerData answers an inner node's octets, by another hand.
func innerData(keys []string, kids ...int) []byte {
	var b bytes.Buffer
	b.Write([]byte{0, byte(len(keys))})
	for i, kid := range kids {
		b.Write([]byte{byte(kid >> 24), byte(kid >> 16), byte(kid >> 8), byte(kid)})
		if i < len(keys) {
			b.WriteByte(byte(len(keys[i])))
			b.WriteString(keys[i])
		}
	}
	return b.Bytes()
}

func (p plant) isLeaf() bool { return len(p.kids) == 0 }

// octets counts those of p's own node.
func (p plant) octets() int {
	if p.isLeaf() {
		return len(leafData(p.pairs))
	}
	return len(innerData(p.keys, make([]int, len(p.kids))...))
}

// grown answers the tree of p's pages, the Kids of a node ahead of it.
func grown(p plant) tree.Tree {
	t := tree.New()
	t.Root = lay(&t, p)
	return t
}

func lay(t *tree.Tree, p plant) int {
	data := leafData(p.pairs)
	if !p.isLeaf() {
		var kids []int
		for _, kid := range p.kids {
			kids = append(kids, lay(t, kid))
		}
		data = innerData(p.keys, kids...)
	}
	t.Pages = append(t.Pages, tree.Page{ID: t.Next, Data: data})
	t.Next++
	return t.Next - 1
}

// one answers a tree of one page of that number.
func one(id int, data []byte) tree.Tree {
	return tree.Tree{Root: id, Next: id + 1, Pages: []tree.Page{{ID: id, Data: data}}}
}

// withNext answers t with another Next.
func withNext(t tree.Tree, next int) tree.Tree {
	t.Next = next
	return t
}

// withRoot answers t with another Root.
func withRoot(t tree.Tree, root int) tree.Tree {
	t.Root = root
	return t
}

// withData answers t with other octets in the page at a place.
func withData(t tree.Tree, at int, data []byte) tree.Tree {
	t.Pages = slices.Clone(t.Pages)
	t.Pages[at].Data = data
	return t
}

// withPages answers t with pages behind its own, and Next behind them.
func withPages(t tree.Tree, pages ...tree.Page) tree.Tree {
	t.Pages = append(slices.Clone(t.Pages), pages...)
	t.Next = t.Pages[len(t.Pages)-1].ID + 1
	return t
}

// found is what a survey tells of a node and all below it.
type found struct {
	keys  []string
	pairs []api.Pair
	pages []int
	deep  []int // how deep each leaf is
}

// survey tells all that a page reaches, by the chapter's words, by another hand; and what may not be.
func survey(pages map[int][]byte, id int, reached map[int]int) (found, error) {
	reached[id]++
	data, there := pages[id]
	if !there || reached[id] > 1 {
		return found{}, fmt.Errorf("page %d is not there, or reached %d times", id, reached[id])
	}
	n, err := node.Decode(data)
	if err != api.OK {
		return found{}, fmt.Errorf("page %d: Decode: %d", id, err)
	}
	f := found{keys: n.Keys, pages: []int{id}}
	if n.Leaf {
		f.deep = []int{1}
		for i, key := range n.Keys {
			f.pairs = append(f.pairs, api.Pair{Key: key, Value: n.Values[i]})
		}
		if len(f.pairs) == 0 {
			return found{}, fmt.Errorf("leaf %d has no pair", id)
		}
		return f, nil
	}
	for i, kid := range n.Kids {
		below, err := survey(pages, kid, reached)
		if err != nil {
			return found{}, err
		}
		for _, key := range below.keys {
			if i > 0 && key < n.Keys[i-1] || i < len(n.Keys) && key >= n.Keys[i] {
				return found{}, fmt.Errorf("key %q is below page %d's Kid %d", key, id, i)
			}
		}
		f.keys = append(f.keys, below.keys...)
		f.pairs = append(f.pairs, below.pairs...)
		f.pages = append(f.pages, below.pages...)
		for _, deep := range below.deep {
			f.deep = append(f.deep, deep+1)
		}
	}
	return f, nil
}

// surveyed tells all that t's Root reaches, and what of t may not be.
func surveyed(t tree.Tree) (found, error) {
	if t.Next < 1 || t.Next > topNext {
		return found{}, fmt.Errorf("Next is %d", t.Next)
	}
	pages := map[int][]byte{}
	for i, p := range t.Pages {
		if p.ID < 1 || p.ID >= t.Next || i > 0 && p.ID <= t.Pages[i-1].ID {
			return found{}, fmt.Errorf("page %d has number %d", i, p.ID)
		}
		pages[p.ID] = p.Data
	}
	if t.Root == 0 {
		return found{}, nil
	}
	f, err := survey(pages, t.Root, map[int]int{})
	if err != nil {
		return found{}, err
	}
	if slices.Min(f.deep) != slices.Max(f.deep) || f.deep[0] > mostDeep {
		return found{}, fmt.Errorf("leaves from %d to %d deep", slices.Min(f.deep), slices.Max(f.deep))
	}
	if len(f.pairs) > mostPairs {
		return found{}, fmt.Errorf("%d pairs", len(f.pairs))
	}
	return f, nil
}

// all answers what t has, by another hand.
func all(t *testing.T, x tree.Tree) found {
	t.Helper()
	f, err := surveyed(x)
	if err != nil {
		t.Fatalf("a tree that may not be: %v", err)
	}
	return f
}

// swept answers x without the pages that its Root does not reach, so that a long run stays quick.
func swept(t *testing.T, x tree.Tree) tree.Tree {
	t.Helper()
	reached := map[int]int{}
	for _, id := range all(t, x).pages {
		reached[id]++
	}
	x.Pages = slices.DeleteFunc(slices.Clone(x.Pages), func(p tree.Page) bool { return reached[p.ID] == 0 })
	return x
}

func same(x, y tree.Tree) bool {
	return x.Root == y.Root && x.Next == y.Next && slices.EqualFunc(x.Pages, y.Pages, samePage)
}

func samePage(p, q tree.Page) bool { return p.ID == q.ID && bytes.Equal(p.Data, q.Data) }

// show answers what a test tells of a tree.
func show(x tree.Tree) string {
	s := fmt.Sprintf("{root %d, next %d, %d pages: %x}", x.Root, x.Next, len(x.Pages), x.Pages[:min(len(x.Pages), 8)])
	return s[:min(len(s), 300)]
}

// dice answers numbers below n, the same ones for the same seed.
func dice(seed uint64) func(n int) int {
	return func(n int) int {
		seed = seed*6364136223846793005 + 1442695040888963407
		return int(seed>>33) % n
	}
}

// numbered answers n pairs with rising keys of six digits.
func numbered(n int) []api.Pair {
	var l []api.Pair
	for i := range n {
		l = append(l, api.Pair{Key: fmt.Sprintf("%06d", 2*i+1), Value: fmt.Sprint(i)})
	}
	return l
}

// twoWays answers a plant so deep of leaves of one pair each, every inner node having two Kids.
func twoWays(deep int) plant {
	level := []plant{}
	first := []string{}
	for _, p := range numbered(1 << (deep - 1)) {
		level = append(level, plant{pairs: []api.Pair{p}})
		first = append(first, p.Key)
	}
	for len(level) > 1 {
		var up []plant
		var upFirst []string
		for i := 0; i < len(level); i += 2 {
			up = append(up, plant{keys: []string{first[i+1]}, kids: level[i : i+2]})
			upFirst = append(upFirst, first[i])
		}
		level, first = up, upFirst
	}
	return level[0]
}

// wide answers a plant of these pairs: at most so many in a leaf, and so many Kids in an inner node.
func wide(pairs []api.Pair, inLeaf, inInner int) plant {
	return raised(leaves(pairs, func() int { return inLeaf }), func() int { return inInner }, firstKey)
}

// leaves answers pairs in leaves of as many as are asked for, or as go in.
func leaves(pairs []api.Pair, ask func() int) []plant {
	var level []plant
	for len(pairs) > 0 {
		n := 1
		for most := min(ask(), len(pairs)); n < most && (plant{pairs: pairs[:n+1]}).octets() <= mostOctets; {
			n++
		}
		level = append(level, plant{pairs: pairs[:n]})
		pairs = pairs[n:]
	}
	return level
}

// raised answers the plant of a level's nodes, with as many Kids each as are asked for, or as go in.
func raised(level []plant, ask func() int, between func(left, right plant) string) plant {
	for len(level) > 1 {
		var up []plant
		for len(level) > 0 {
			p := plant{kids: level[:1]}
			for most := max(ask(), 2); len(p.kids) < len(level); {
				q := plant{keys: append(slices.Clone(p.keys), between(level[len(p.kids)-1], level[len(p.kids)])), kids: level[:len(p.kids)+1]}
				// A node for itself would have no key.
				if alone := len(level)-len(p.kids) == 1; q.octets() > mostOctets || len(p.kids) >= most && !alone {
					break
				}
				p = q
			}
			if level = level[len(p.kids):]; len(level) == 1 {
				last := len(p.kids) - 1
				level = append([]plant{p.kids[last]}, level...)
				p = plant{keys: p.keys[:last-1], kids: p.kids[:last]}
			}
			up = append(up, p)
		}
		level = up
	}
	return level[0]
}

func (p plant) first() string {
	for !p.isLeaf() {
		p = p.kids[0]
	}
	return p.pairs[0].Key
}

func (p plant) last() string {
	for !p.isLeaf() {
		p = p.kids[len(p.kids)-1]
	}
	return p.pairs[len(p.pairs)-1].Key
}

func firstKey(_, right plant) string { return right.first() }

// shortKey answers the shortest beginning of the right one's first key that parts it from the left one.
func shortKey(left, right plant) string {
	key := right.first()
	for n := 1; ; n++ {
		if key[:n] > left.last() {
			return key[:n]
		}
	}
}

// wild answers a plant by chance: nodes from bare to full, keys of all lengths, keys between of all lengths.
func wild(roll func(n int) int, pairs int) plant {
	have := map[string]string{}
	for range pairs {
		have[chanceKey(roll)] = text(roll(3) * roll(longestValue/2))
	}
	var l []api.Pair
	for key, value := range have {
		l = append(l, api.Pair{Key: key, Value: value})
	}
	slices.SortFunc(l, func(p, q api.Pair) int { return strings.Compare(p.Key, q.Key) })
	few, many := 1+roll(3), 2+roll(30)
	either := func() int {
		if roll(3) > 0 {
			return few
		}
		return many
	}
	between := func(left, right plant) string {
		if roll(2) == 0 {
			return shortKey(left, right)
		}
		return firstKey(left, right)
	}
	return raised(leaves(l, either), either, between)
}

// chanceKey answers a key by chance, of one octet to the most.
func chanceKey(roll func(n int) int) string {
	b := make([]byte, 1+roll(longestKey)*roll(2)+roll(2))
	for i := range b {
		b[i] = "\x00aAz\x80\xff"[roll(6)]
	}
	return string(b[:min(len(b), longestKey)])
}
