package tree_test

import (
	"bytes"
	"fmt"
	"maps"
	"math"
	"slices"
	"strings"
	"sync"
	"testing"

	"transept/api"
	"transept/tree"
)

// named is a tree and what is told of it.
type named struct {
	what string
	tree.Tree
}

// threeDeep has keys between that are no pairs' keys, and some that are.
func threeDeep() plant {
	return inner("m",
		inner("c g", leaf("a=1", "b=2"), leaf("c=3"), leaf("h=4", "i=5", "l=6")),
		inner("p", leaf("m=7", "n=8"), leaf("q=9")))
}

// stray are pages that say nothing where they are not reached.
func stray() [][]byte {
	return [][]byte{
		nil, {}, {0}, {1}, {2, 0}, []byte("no node at all"), make([]byte, 300),
		leafData(nil), leafData(pairsOf("a=1")), leafData(pairsOf("b=1", "a=2")),
		innerData([]string{"k"}, 90, 90), innerData([]string{"k"}, 1, 1), innerData([]string{"k"}, 60000, 1), innerData(nil, 1),
	}
}

// mayBe are trees that may be, at the edges too.
func mayBe() []named {
	a := one(1, leafData(pairsOf("a=1")))
	deep := grown(threeDeep())
	l := []named{
		{"the empty one", tree.New()},
		{"an empty one with an empty list", tree.Tree{Next: 1, Pages: []tree.Page{}}},
		{"an empty one, Next 2", tree.Tree{Next: 2}},
		{"an empty one, Next at the most", tree.Tree{Next: topNext}},
		{"an empty one, Next one below the most", tree.Tree{Next: topNext - 1}},
		{"an empty one beside pages", withRoot(deep, 0)},
		{"a leaf", a},
		{"a leaf, Next at the most", withNext(a, topNext)},
		{"a leaf at 9", one(9, leafData(pairsOf("a=1")))},
		{"a leaf at the highest number", one(topNext-1, leafData(pairsOf("a=1", "b=2")))},
		{"the longest key and value", grown(plant{pairs: []api.Pair{{Key: text(longestKey), Value: text(longestValue)}}})},
		{"octets of all kinds", grown(leaf("\x00=", "\x00\x00=\x00", "a=\xff", "a\x00=1", "\x80=2", "\xff=3", "\xff\xff=4"))},
		{"a full leaf", grown(plant{pairs: fullPairs()})},
		{"two leaves", grown(inner("b", leaf("a=1"), leaf("b=2")))},
		{"a key between that is in no leaf", grown(inner("b", leaf("a=1"), leaf("c=2")))},
		{"a key just below the one behind", grown(inner("b", leaf("a=1", "a\xff=2"), leaf("b=3", "b\x00=4")))},
		{"three deep", deep},
		{"three deep, Next at the most", withNext(deep, topNext)},
		{"Kids that fall", fallingKids()},
		{"the root ahead", tree.Tree{Root: 1, Next: 9, Pages: []tree.Page{
			{ID: 1, Data: innerData([]string{"b"}, 3, 8)}, {ID: 3, Data: leafData(pairsOf("a=1"))}, {ID: 8, Data: leafData(pairsOf("b=2"))}}}},
		{"two ways, 13 deep, 4096 pairs", grown(twoWays(13))},
		{"4096 pairs", grown(wide(numbered(mostPairs), 80, 39))},
		{"4095 pairs", grown(wide(numbered(mostPairs-1), 20, 10))},
		{"keys of all lengths", grown(wide(longKeys(400), 80, 39))},
	}
	for i, data := range stray() {
		l = append(l,
			named{fmt.Sprintf("a leaf and stray page %d", i), withPages(a, tree.Page{ID: 90, Data: data})},
			named{fmt.Sprintf("three deep and stray page %d", i), withPages(deep, tree.Page{ID: 90, Data: data})},
			named{fmt.Sprintf("stray page %d alone", i), withRoot(one(90, data), 0)})
	}
	roll := dice(10)
	for i := range 40 {
		l = append(l, named{fmt.Sprintf("wild %d", i), grown(wild(roll, 1+roll(150)))})
	}
	return l
}

// fullPairs fill a leaf to its last octet.
func fullPairs() []api.Pair {
	l := []api.Pair{{Key: "a", Value: text(longestValue)}, {Key: "b", Value: text(longestValue)}, {Key: "c", Value: text(longestValue)}, {Key: "d"}}
	l[3].Value = text(mostOctets - len(leafData(l)))
	return l
}

// longKeys answers n pairs with keys of one octet to the most.
func longKeys(n int) []api.Pair {
	l := numbered(n)
	for i := range l {
		l[i].Key += text(i % (longestKey - 5))
	}
	return l
}

// fallingKids is three leaves with the first one's page behind the others', and the root between them.
func fallingKids() tree.Tree {
	return tree.Tree{Root: 3, Next: 6, Pages: []tree.Page{
		{ID: 2, Data: leafData(pairsOf("e=5"))},
		{ID: 3, Data: innerData([]string{"c", "d"}, 5, 4, 2)},
		{ID: 4, Data: leafData(pairsOf("c=3"))},
		{ID: 5, Data: leafData(pairsOf("a=1"))}}}
}

// mayNotBe are trees with one thing wrong.
func mayNotBe() []named {
	return slices.Concat(wrongNumbers(), wrongRoots(), wrongPages(), wrongDepths(), wrongKeys(), wrongCounts())
}

// wrongNumbers: Next, and the numbers of pages that are reached and that are not.
func wrongNumbers() []named {
	var l []named
	a := one(1, leafData(pairsOf("a=1")))
	for _, next := range []int{0, -1, -topNext, topNext + 1, topNext + 2, 2 * topNext, 1 << 31, 1 << 32, 1<<32 + 2, math.MaxInt, math.MinInt, math.MinInt + 1} {
		l = append(l,
			named{fmt.Sprintf("Next %d", next), tree.Tree{Next: next}},
			named{fmt.Sprintf("a leaf, Next %d", next), withNext(a, next)},
			named{fmt.Sprintf("a stray page, Next %d", next), withNext(withRoot(a, 0), next)})
	}
	l = append(l, named{"nothing", tree.Tree{}}, named{"a leaf, Next 1", withNext(a, 1)})
	for _, ids := range [][]int{
		{0}, {-1}, {math.MinInt}, {math.MaxInt}, {10}, {11}, {topNext}, {1 << 32}, {1<<32 + 1},
		{1, 1}, {9, 9}, {2, 1}, {9, 1}, {1, 3, 2}, {2, 3, 1}, {1, 2, 2}, {1, 1, 2}, {0, 1}, {1, 0}, {-1, 1}, {1, -1},
		{1, 10}, {1, 11}, {1, math.MaxInt}, {math.MinInt, 1}, {1, 2, 3, 4, 5, 6, 7, 8, 9, 10},
	} {
		t := tree.Tree{Next: 10}
		for _, id := range ids {
			t.Pages = append(t.Pages, tree.Page{ID: id, Data: leafData(pairsOf("a=1"))})
		}
		l = append(l, named{fmt.Sprintf("stray pages %d below Next 10", ids), t})
		l = append(l, named{fmt.Sprintf("root %d of pages %d below Next 10", ids[0], ids), withRoot(t, ids[0])})
	}
	return l
}

// wrongRoots: numbers that no page has.
func wrongRoots() []named {
	var l []named
	t := grown(threeDeep())
	t.Pages = slices.Delete(slices.Clone(t.Pages), 0, 1)
	gap := withPages(one(2, leafData(pairsOf("a=1"))), tree.Page{ID: 4, Data: leafData(pairsOf("b=1"))})
	for _, root := range []int{-1, -2, 1, 3, 5, 6, topNext - 1, topNext, topNext + 2, 1 << 32, 1<<32 + 2, math.MaxInt, math.MinInt} {
		l = append(l, named{fmt.Sprintf("root %d of pages 2 and 4", root), withRoot(gap, root)})
		l = append(l, named{fmt.Sprintf("root %d of none", root), tree.Tree{Root: root, Next: topNext}})
	}
	return append(l, named{"the first leaf lacking", t})
}

// wrongPages: pages that are reached and lacking, that do not decode, that are reached twice.
func wrongPages() []named {
	var l []named
	t := grown(threeDeep())
	for i, p := range t.Pages {
		lacking := withNext(t, topNext)
		lacking.Pages = slices.Delete(slices.Clone(t.Pages), i, i+1)
		l = append(l, named{fmt.Sprintf("page %d lacking", p.ID), lacking})
		for _, data := range [][]byte{nil, {}, {1}, {0}, {2, 0}, p.Data[:len(p.Data)-1], append(slices.Clone(p.Data), 0),
			append([]byte{2}, p.Data[1:]...), append([]byte{1 - p.Data[0]}, p.Data[1:]...), make([]byte, 300), leafData(nil)} {
			l = append(l, named{fmt.Sprintf("page %d of % .20x", p.ID, data), withData(t, i, data)})
		}
		for _, q := range t.Pages {
			// In the root's place any other would do.
			if q.ID != p.ID && p.ID != t.Root {
				l = append(l, named{fmt.Sprintf("page %d in page %d's place", q.ID, p.ID), withData(t, i, q.Data)})
			}
		}
	}
	full := fullPairs()
	full[0].Key += "a"
	l = append(l,
		named{"a leaf of 245 octets", one(1, leafData(full))},
		named{"keys that fall", one(1, leafData(pairsOf("b=1", "a=2")))},
		named{"keys that are equal", one(1, leafData(pairsOf("a=1", "a=2")))},
		named{"an empty key", one(1, leafData(pairsOf("=1")))},
		named{"a key of 33 octets", one(1, leafData([]api.Pair{{Key: text(longestKey + 1)}}))},
		named{"a value of 65 octets", one(1, leafData([]api.Pair{{Key: "a", Value: text(longestValue + 1)}}))},
		named{"an inner node without keys", withPages(one(1, leafData(pairsOf("a=1"))), tree.Page{ID: 2, Data: innerData(nil, 1)})})
	l[len(l)-1].Root = 2
	return append(l, wrongKids()...)
}

// wrongKids: Kids that are no pages, the node itself, the one above it, or another's too.
func wrongKids() []named {
	var l []named
	for _, kid := range []int{0, 3, 4, 5, topNext - 1, topNext, topNext + 1, 1 << 31} {
		for at := range 2 {
			kids := []int{1, 2}
			kids[at] = kid
			l = append(l, named{fmt.Sprintf("Kids %d of the root at 4", kids), tree.Tree{Root: 4, Next: 7, Pages: []tree.Page{
				{ID: 1, Data: leafData(pairsOf("a=1"))}, {ID: 2, Data: leafData(pairsOf("m=1"))}, {ID: 4, Data: innerData([]string{"m"}, kids...)}}}})
		}
	}
	two := grown(inner("m", leaf("a=1"), leaf("m=2")))
	for _, kids := range [][]int{{1, 1}, {2, 2}, {3, 3}, {2, 1}, {1, 3}, {3, 2}} {
		l = append(l, named{fmt.Sprintf("Kids %d", kids), withData(two, 2, innerData([]string{"m"}, kids...))})
	}
	// A page that is reached twice from two nodes, and one that reaches the root.
	four := grown(inner("m", inner("c", leaf("a=1"), leaf("c=2")), inner("p", leaf("m=3"), leaf("p=4"))))
	for _, kid := range []int{1, 2, 3, 4, 6, 7} {
		l = append(l, named{fmt.Sprintf("Kid %d twice", kid), withData(four, 5, innerData([]string{"p"}, 4, kid))})
	}
	return l
}

// wrongDepths: leaves at two depths, and depths that 4096 pairs do not fill.
func wrongDepths() []named {
	low, high := leaf("a=1"), leaf("z=1")
	left := inner("b", low, leaf("b=1"))
	right := inner("y", leaf("m=1"), high)
	l := []named{
		{"the left leaf ahead", grown(inner("m", low, right))},
		{"the right leaf ahead", grown(inner("m", left, high))},
		{"the middle leaf ahead", grown(inner("d m", left, leaf("d=1"), right))},
		{"the middle leaf behind", grown(inner("d m", low, inner("f", leaf("e=1"), leaf("f=1")), high))},
		{"the last leaf two ahead", grown(inner("m", inner("d", left, inner("e", leaf("d=1"), leaf("e=1"))), high))},
		{"14 deep", grown(twoWays(14))},
	}
	for _, deep := range []int{3, 15, 16, 17, 18, 40} {
		l = append(l, named{fmt.Sprintf("a stair of %d", deep), grown(stair(deep))})
	}
	return l
}

// stair is a plant of that depth with one leaf at each.
func stair(deep int) plant {
	p := leaf("a=1")
	for i := 1; i < deep; i++ {
		key := string([]byte{byte('a' + i)})
		p = inner(key, p, leaf(key+"=1"))
	}
	return p
}

// wrongKeys: keys that are not where the keys about their place say.
func wrongKeys() []named {
	l := []named{
		{"equal to the key behind", grown(inner("m", leaf("a=1", "m=2"), leaf("n=3")))},
		{"above the key behind", grown(inner("m", leaf("a=1", "x=2"), leaf("y=3")))},
		{"alone, equal to the key behind", grown(inner("m", leaf("m=1"), leaf("n=3")))},
		{"below the key ahead", grown(inner("m", leaf("a=1"), leaf("l=2", "n=3")))},
		{"just below the key ahead", grown(inner("m", leaf("a=1"), leaf("l\xff=2")))},
		{"leaves that are exchanged", grown(inner("m", leaf("n=1"), leaf("a=2")))},
		{"in the middle, below", grown(inner("f m", leaf("a=1"), leaf("e=2"), leaf("n=3")))},
		{"in the middle, at the key behind", grown(inner("f m", leaf("a=1"), leaf("g=2", "m=2"), leaf("n=3")))},
		{"in the middle, above", grown(inner("f m", leaf("a=1"), leaf("g=2", "z=2"), leaf("n=3")))},
		{"above the key behind its parent", grown(inner("m", inner("c", leaf("a=1"), leaf("d=2", "n=3")), inner("p", leaf("m=7"), leaf("q=9"))))},
		{"equal to the key behind its parent", grown(inner("m", inner("c", leaf("a=1"), leaf("d=2", "m=3")), inner("p", leaf("n=7"), leaf("q=9"))))},
		{"below the key ahead of its parent", grown(inner("m", inner("c", leaf("a=1"), leaf("d=2")), inner("p", leaf("l=7", "n=8"), leaf("q=9"))))},
		{"a key between above the key behind", grown(inner("m", inner("c n", leaf("a=1"), leaf("d=2"), leaf("n=3")), inner("p", leaf("m=7"), leaf("q=9"))))},
		{"a key between below the key ahead", grown(inner("m", inner("c", leaf("a=1"), leaf("d=2")), inner("l p", leaf("k=6"), leaf("m=7"), leaf("q=9"))))},
		{"a key between equal to the key ahead", grown(inner("m", inner("c", leaf("a=1"), leaf("d=2")), inner("m p", leaf("l=6"), leaf("m=7"), leaf("q=9"))))},
	}
	return append(l, named{"above by an octet over 127", grown(inner("\x80", leaf("\x7f=1", "\xff=2"), leaf("\x80=3")))})
}

// wrongCounts: leaves without a pair, and a pair too many.
func wrongCounts() []named {
	none := plant{}
	return []named{
		{"a leaf without a pair", one(1, leafData(nil))},
		{"the first leaf without a pair", grown(inner("m", none, leaf("m=1")))},
		{"the last leaf without a pair", grown(inner("m", leaf("a=1"), none))},
		{"the middle leaf without a pair", grown(inner("f m", leaf("a=1"), none, leaf("n=1")))},
		{"all leaves without a pair", grown(inner("m", none, none))},
		{"4097 pairs", grown(wide(numbered(mostPairs+1), 80, 39))},
		{"4097 pairs in small leaves", grown(wide(numbered(mostPairs+1), 2, 3))},
		{"5000 pairs", grown(wide(numbered(5000), 9, 9))},
	}
}

// TestExample is the chapter's.
func TestExample(t *testing.T) {
	first, err := tree.Put(tree.New(), "a", "1")
	if err != api.OK {
		t.Fatal("Put a = 1:", err)
	}
	second, err := tree.Put(first, "b", "2")
	if err != api.OK {
		t.Fatal("Put b = 2:", err)
	}
	wantScan(t, "a and b", second, "", "", pairsOf("a=1", "b=2"))
	earlier, err := tree.At(second, first.Root)
	if err != api.OK {
		t.Fatal("At the first root:", err)
	}
	wantScan(t, "the first root", earlier, "", "", pairsOf("a=1"))
}

func wantScan(t *testing.T, what string, x tree.Tree, from, to string, want []api.Pair) {
	t.Helper()
	if l, err := tree.Scan(x, from, to); err != api.OK || !slices.Equal(l, want) {
		t.Errorf("Scan of %s from %.40q to %.40q: %d of %.200q; want %d of %.200q", what, from, to, err, l, len(want), want)
	}
}

func TestP10_1New(t *testing.T) {
	x := tree.New()
	if x.Root != 0 || x.Next != 1 || len(x.Pages) != 0 {
		t.Errorf("New: %s", show(x))
	}
	if err := tree.Check(x); err != api.OK {
		t.Errorf("Check of New: %d", err)
	}
	wantScan(t, "New", x, "", "", nil)
}

func TestP10_1Check(t *testing.T) {
	for _, x := range mayBe() {
		if _, err := surveyed(x.Tree); err != nil {
			t.Errorf("the test's own fault: %s: %v", x.what, err)
		}
		if err := tree.Check(x.Tree); err != api.OK {
			t.Errorf("Check of %s: %d", x.what, err)
		}
	}
	for _, x := range mayNotBe() {
		if _, err := surveyed(x.Tree); err == nil {
			t.Errorf("the test's own fault: %s may be", x.what)
		}
		if err := tree.Check(x.Tree); err != api.ErrState {
			t.Errorf("Check of %s: %d; want %d", x.what, err, api.ErrState)
		}
	}
}

// TestP10_1CheckDeep: a tree that is 16 deep has more pairs than may be, and all numbers are taken by its pages.
func TestP10_1CheckDeep(t *testing.T) {
	x := grown(twoWays(mostDeep))
	if x.Next != topNext || len(x.Pages) != topNext-1 {
		t.Fatalf("the test's own fault: %d pages", len(x.Pages))
	}
	if err := tree.Check(x); err != api.ErrState {
		t.Errorf("Check of a tree that is 16 deep: %d; want %d", err, api.ErrState)
	}
	// Some way down 4096 pairs are left, and that may be.
	f, err := tree.At(withRoot(x, 0), 1<<13-1)
	if err != api.OK {
		t.Fatalf("At the first 13 deep of it: %d", err)
	}
	if l, err := tree.Scan(f, "", ""); err != api.OK || len(l) != mostPairs {
		t.Errorf("Scan of the first 13 deep of it: %d pairs, %d", len(l), err)
	}
	if _, err := tree.At(withRoot(x, 0), 1<<14-1); err != api.ErrState {
		t.Errorf("At the first 14 deep of it: %d; want %d", err, api.ErrState)
	}
}

// TestP10_1CheckByChance: trees with octets, numbers and roots changed, against the chapter's words by another hand.
func TestP10_1CheckByChance(t *testing.T) {
	roll := dice(101)
	told := map[api.Errno]int{}
	for range 300 {
		start := grown(wild(roll, 1+roll(30)))
		for range 40 {
			x := withNext(start, start.Next)
			x.Pages = slices.Clone(x.Pages)
			at := roll(len(x.Pages))
			switch roll(12) {
			case 0:
				x.Root = roll(x.Next+2) - 1
			case 1:
				x.Next += roll(5) - 3
			case 2:
				x.Pages[at].ID += roll(3) - 1
			case 3:
				x.Pages = slices.Delete(x.Pages, at, at+1)
				x.Root = x.Root * roll(2)
			default:
				x.Pages[at].Data = bytes.Clone(x.Pages[at].Data)
				octet := roll(len(x.Pages[at].Data))
				x.Pages[at].Data[octet] += byte(roll(7)) - 3
			}
			want := api.OK
			if _, err := surveyed(x); err != nil {
				want = api.ErrState
			}
			told[want]++
			if err := tree.Check(x); err != want {
				t.Errorf("Check of %s: %d; want %d", show(x), err, want)
			}
		}
	}
	if told[api.OK] < 1000 || told[api.ErrState] < 1000 {
		t.Errorf("%d may be, %d may not", told[api.OK], told[api.ErrState])
	}
}

// wrongKeyTexts are keys that may not be.
func wrongKeyTexts() []string {
	return []string{"", text(longestKey + 1), text(longestKey + 2), text(64), text(256 + 5), text(1 << 16)}
}

// TestCheckFirst: every call tells Check's error ahead of its own, and nothing beside it.
func TestCheckFirst(t *testing.T) {
	for _, x := range mayNotBe() {
		for _, key := range []string{"a", "m", "", text(longestKey + 1)} {
			wantRefused(t, x.what, x.Tree, key, "v", api.ErrState)
			wantRefused(t, x.what, x.Tree, key, text(longestValue+1), api.ErrState)
			if l, err := tree.Scan(x.Tree, key, "z"); err != api.ErrState || len(l) != 0 {
				t.Errorf("Scan of %s: %d of %q; want %d alone", x.what, err, l, api.ErrState)
			}
		}
		for _, root := range []int{0, 1, 2, x.Root, x.Next, -1, math.MaxInt, math.MinInt} {
			if y, err := tree.At(x.Tree, root); err != api.ErrState || !same(y, tree.Tree{}) {
				t.Errorf("At %d of %s: %s, %d; want %d alone", root, x.what, show(y), err, api.ErrState)
			}
		}
	}
}

// wantRefused: Get, Put and Delete tell that error and nothing else.
func wantRefused(t *testing.T, what string, x tree.Tree, key, value string, want api.Errno) {
	t.Helper()
	if v, there, err := tree.Get(x, key); err != want || there || v != "" {
		t.Errorf("Get of %.40q in %s: %q, %t, %d; want %d alone", key, what, v, there, err, want)
	}
	wantPutRefused(t, what, x, key, value, want)
	wantDeleteRefused(t, what, x, key, want)
}

func wantPutRefused(t *testing.T, what string, x tree.Tree, key, value string, want api.Errno) {
	t.Helper()
	if y, err := tree.Put(x, key, value); err != want || !same(y, tree.Tree{}) {
		t.Errorf("Put of %.40q in %s: %s, %d; want %d alone", key, what, show(y), err, want)
	}
}

func wantDeleteRefused(t *testing.T, what string, x tree.Tree, key string, want api.Errno) {
	t.Helper()
	if y, there, err := tree.Delete(x, key); err != want || there || !same(y, tree.Tree{}) {
		t.Errorf("Delete of %.40q in %s: %s, %t, %d; want %d alone", key, what, show(y), there, err, want)
	}
}

// few answers the trees of mayBe that are small enough to try all of something on.
func few() []named {
	return slices.DeleteFunc(mayBe(), func(x named) bool { return len(x.Pages) > 60 })
}

// near are keys on, below, between and above those of pairs.
func near(pairs []api.Pair) []string {
	l := []string{"\x00", "a", "m", "z", "\xff", text(longestKey), strings.Repeat("\xff", longestKey)}
	for _, p := range pairs {
		end := len(p.Key) - 1
		l = append(l, p.Key, (p.Key + "\x00")[:min(end+2, longestKey)], p.Key[:end]+string([]byte{p.Key[end] - 1}), p.Key[:end]+string([]byte{p.Key[end] + 1}))
		if end > 0 {
			l = append(l, p.Key[:end])
		}
	}
	slices.Sort(l)
	return slices.Compact(l)
}

// asMap answers pairs by their keys.
func asMap(pairs []api.Pair) map[string]string {
	m := map[string]string{}
	for _, p := range pairs {
		m[p.Key] = p.Value
	}
	return m
}

// asPairs answers a map's pairs by their keys.
func asPairs(m map[string]string) []api.Pair {
	var l []api.Pair
	for _, key := range slices.Sorted(maps.Keys(m)) {
		l = append(l, api.Pair{Key: key, Value: m[key]})
	}
	return l
}

func wantGet(t *testing.T, what string, x tree.Tree, have map[string]string, key string) {
	t.Helper()
	want, is := have[key]
	if v, there, err := tree.Get(x, key); err != api.OK || there != is || v != want {
		t.Errorf("Get of %q in %s: %q, %t, %d; want %q, %t", key, what, v, there, err, want, is)
	}
}

func TestP10_1Get(t *testing.T) {
	for _, x := range mayBe() {
		pairs := all(t, x.Tree).pairs
		have := asMap(pairs)
		keys := near(pairs)
		step := 1 + len(keys)*len(x.Pages)/20000
		for i := 0; i < len(keys); i += step {
			wantGet(t, x.what, x.Tree, have, keys[i])
		}
		for _, key := range wrongKeyTexts() {
			if v, there, err := tree.Get(x.Tree, key); err != api.ErrKey || there || v != "" {
				t.Errorf("Get of %.40q in %s: %q, %t, %d; want %d alone", key, x.what, v, there, err, api.ErrKey)
			}
		}
	}
}

// wantFollows: y has x's pages and at most 40 more, from Next on, may be, and has those pairs.
func wantFollows(t *testing.T, what string, x, y tree.Tree, want map[string]string) {
	t.Helper()
	if len(y.Pages) < len(x.Pages) || !slices.EqualFunc(x.Pages, y.Pages[:len(x.Pages)], samePage) {
		t.Errorf("%s: the pages of before are not as they were", what)
		return
	}
	added := y.Pages[len(x.Pages):]
	if len(added) > mostAdded || y.Next != x.Next+len(added) {
		t.Errorf("%s: %d pages more, Next from %d to %d", what, len(added), x.Next, y.Next)
	}
	for i, p := range added {
		if p.ID != x.Next+i {
			t.Errorf("%s: the new page %d has number %d, not from Next %d on", what, i, p.ID, x.Next)
		}
	}
	f, err := surveyed(y)
	if err != nil || tree.Check(y) != api.OK {
		t.Errorf("%s: what follows may not be: %v", what, err)
	}
	if !slices.Equal(f.pairs, asPairs(want)) {
		t.Errorf("%s: %.300q; want %.300q", what, f.pairs, asPairs(want))
	}
}

// put does Put to x and to the map, and answers what follows.
func put(t *testing.T, what string, x tree.Tree, have map[string]string, key, value string) tree.Tree {
	t.Helper()
	y, err := tree.Put(x, key, value)
	if err != api.OK {
		t.Fatalf("Put of %q in %s: %d", key, what, err)
	}
	have[key] = value
	wantFollows(t, fmt.Sprintf("Put of %q in %s", key, what), x, y, have)
	return y
}

// remove does Delete to x and to the map, and answers what follows.
func remove(t *testing.T, what string, x tree.Tree, have map[string]string, key string) tree.Tree {
	t.Helper()
	_, is := have[key]
	y, there, err := tree.Delete(x, key)
	if err != api.OK || there != is {
		t.Fatalf("Delete of %q in %s: %t, %d; want %t", key, what, there, err, is)
	}
	if !is && !same(x, y) {
		t.Errorf("Delete of %q, which is not in %s: %s; want %s", key, what, show(y), show(x))
	}
	delete(have, key)
	wantFollows(t, fmt.Sprintf("Delete of %q in %s", key, what), x, y, have)
	return y
}

// TestP10_2ByHand: every octet of small trees written out.
func TestP10_2ByHand(t *testing.T) {
	x, err := tree.Put(tree.New(), "a", "1")
	want := tree.Tree{Root: 1, Next: 2, Pages: []tree.Page{{ID: 1, Data: []byte{1, 1, 1, 'a', 1, '1'}}}}
	if err != api.OK || !same(x, want) {
		t.Errorf("Put a = 1: %s, %d; want %s", show(x), err, show(want))
	}
	// The same pair again is a change like any other.
	x, err = tree.Put(x, "a", "1")
	want = tree.Tree{Root: 2, Next: 3, Pages: append(want.Pages, tree.Page{ID: 2, Data: []byte{1, 1, 1, 'a', 1, '1'}})}
	if err != api.OK || !same(x, want) {
		t.Errorf("Put a = 1 again: %s, %d; want %s", show(x), err, show(want))
	}
	x, err = tree.Put(x, "B", "")
	want = tree.Tree{Root: 3, Next: 4, Pages: append(want.Pages, tree.Page{ID: 3, Data: []byte{1, 2, 1, 'B', 0, 1, 'a', 1, '1'}})}
	if err != api.OK || !same(x, want) {
		t.Errorf("Put B = \"\": %s, %d; want %s", show(x), err, show(want))
	}
	x, there, err := tree.Delete(x, "a")
	want = tree.Tree{Root: 4, Next: 5, Pages: append(want.Pages, tree.Page{ID: 4, Data: []byte{1, 1, 1, 'B', 0}})}
	if err != api.OK || !there || !same(x, want) {
		t.Errorf("Delete a: %s, %t, %d; want %s", show(x), there, err, show(want))
	}
	x, there, err = tree.Delete(x, "a")
	if err != api.OK || there || !same(x, want) {
		t.Errorf("Delete a again: %s, %t, %d; want %s", show(x), there, err, show(want))
	}
	x, there, err = tree.Delete(x, "B")
	want.Root = 0
	if err != api.OK || !there || !same(x, want) {
		t.Errorf("Delete B: %s, %t, %d; want %s", show(x), there, err, show(want))
	}
	x, there, err = tree.Delete(x, "B")
	if err != api.OK || there || !same(x, want) {
		t.Errorf("Delete B again: %s, %t, %d; want %s", show(x), there, err, show(want))
	}
}

// TestP10_2Errors: which comes first, for every set of faults at once.
func TestP10_2Errors(t *testing.T) {
	full := grown(wide(numbered(mostPairs), 80, 39))
	for set := range 32 {
		x, key, value, want := full, "000001", "v", api.OK
		if set&16 != 0 {
			x, want = withNext(x, topNext), api.ErrFull
		}
		if set&8 != 0 {
			key, want = "new", api.ErrFull
		}
		if set&4 != 0 {
			value, want = text(longestValue+1), api.ErrLong
		}
		if set&2 != 0 {
			key, want = text(longestKey+1), api.ErrKey
		}
		if set&1 != 0 {
			x.Root, want = -1, api.ErrState
		}
		if _, err := tree.Put(x, key, value); err != want {
			t.Errorf("Put with faults %b: %d; want %d", set, err, want)
		}
		if set&12 != 0 {
			continue
		}
		if _, there, err := tree.Delete(x, key); err != want || there != (want == api.OK) {
			t.Errorf("Delete with faults %b: %t, %d; want %d", set, there, err, want)
		}
	}
}

func TestP10_2PutTexts(t *testing.T) {
	for _, x := range few() {
		have := asMap(all(t, x.Tree).pairs)
		for _, key := range wrongKeyTexts() {
			wantPutRefused(t, x.what, x.Tree, key, "v", api.ErrKey)
			wantPutRefused(t, x.what, x.Tree, key, text(longestValue+1), api.ErrKey)
			wantDeleteRefused(t, x.what, x.Tree, key, api.ErrKey)
		}
		for _, n := range []int{longestValue + 1, longestValue + 2, 256, 256 + 5, 1 << 16} {
			wantPutRefused(t, x.what, x.Tree, "a", text(n), api.ErrLong)
			wantPutRefused(t, x.what, x.Tree, "new", text(n), api.ErrLong)
		}
		if x.Next > topNext-mostAdded {
			continue
		}
		for _, n := range []int{1, 2, longestKey - 1, longestKey} {
			for _, m := range []int{0, 1, longestValue - 1, longestValue} {
				put(t, x.what, x.Tree, maps.Clone(have), text(n), text(m))
			}
		}
	}
}

// roomy answers the trees of few that have room for any change.
func roomy() []named {
	return slices.DeleteFunc(few(), func(x named) bool { return x.Next > topNext-mostAdded })
}

// some answers keys, about so many if there are more.
func some(keys []string, most int) []string {
	var l []string
	for i := 0; i < len(keys); i += 1 + len(keys)/most {
		l = append(l, keys[i])
	}
	return l
}

// TestP10_2PutAnywhere: Put of keys on and near those that are there, with short and long values.
func TestP10_2PutAnywhere(t *testing.T) {
	for _, x := range roomy() {
		pairs := all(t, x.Tree).pairs
		for _, key := range some(near(pairs), 80) {
			put(t, x.what, x.Tree, asMap(pairs), key, "")
			put(t, x.what, x.Tree, asMap(pairs), key, text(longestValue))
		}
	}
}

// TestP10_2DeleteAnywhere: Delete of keys that are there, and of those near them.
func TestP10_2DeleteAnywhere(t *testing.T) {
	for _, x := range roomy() {
		pairs := all(t, x.Tree).pairs
		for _, key := range append(some(near(pairs), 80), some(slices.Sorted(maps.Keys(asMap(pairs))), 80)...) {
			remove(t, x.what, x.Tree, asMap(pairs), key)
		}
	}
}

// TestP10_2Keys: at 4095 pairs one more goes in, at 4096 none does, but other values do.
func TestP10_2Keys(t *testing.T) {
	pairs := numbered(mostPairs)
	for _, x := range []named{
		{"4095 in full leaves", grown(wide(pairs[:mostPairs-1], 80, 39))},
		{"4095 in small leaves", grown(wide(pairs[:mostPairs-1], 2, 3))},
	} {
		have := asMap(pairs[:mostPairs-1])
		full := put(t, x.what, x.Tree, have, "000002", "new")
		for _, key := range []string{"0", "000004", "zzz", pairs[mostPairs-1].Key} {
			wantPutRefused(t, x.what+" and one", full, key, "v", api.ErrFull)
			wantPutRefused(t, x.what+" and one", full, key, text(longestValue+1), api.ErrLong)
		}
		for _, key := range []string{"000001", "000002", "000003", pairs[mostPairs-2].Key} {
			put(t, x.what+" and one", full, maps.Clone(have), key, text(longestValue))
		}
		less := remove(t, x.what+" and one", full, have, pairs[1000].Key)
		put(t, x.what+" and one other", less, have, "zzz", "v")
	}
	deep := grown(twoWays(13))
	wantPutRefused(t, "two ways, 13 deep", deep, "000002", "v", api.ErrFull)
	for _, p := range []api.Pair{pairs[0], pairs[1], pairs[2047], pairs[2048], pairs[mostPairs-1]} {
		put(t, "two ways, 13 deep", deep, asMap(pairs), p.Key, text(longestValue))
		have := asMap(pairs)
		less := remove(t, "two ways, 13 deep", deep, have, p.Key)
		put(t, "two ways, one less", less, maps.Clone(have), p.Key, "again")
		put(t, "two ways, one less", less, maps.Clone(have), "zzz", text(longestValue))
	}
}

// TestP10_2Full: what a change adds must fit below MaxPages; if it just does, Next is there.
func TestP10_2Full(t *testing.T) {
	trees := append(roomy(), named{"two ways, 10 deep", grown(twoWays(10))}, named{"800 pairs", grown(wide(numbered(800), 20, 5))})
	adding := map[int]int{}
	for _, x := range trees {
		pairs := all(t, x.Tree).pairs
		for _, key := range some(near(pairs), 12) {
			value := text(longestValue)
			y := put(t, x.what, x.Tree, asMap(pairs), key, value)
			added := y.Next - x.Next
			adding[added]++
			edge := withNext(x.Tree, topNext-added)
			if z := put(t, x.what+" with just enough room", edge, asMap(pairs), key, value); z.Next != topNext {
				t.Errorf("Put of %q in %s with room for %d: Next %d", key, x.what, added, z.Next)
			}
			for _, less := range []int{1, added} {
				wantPutRefused(t, x.what+" with too little room", withNext(x.Tree, topNext-added+less), key, value, api.ErrFull)
			}
		}
		for i := 0; i < len(pairs); i += 1 + len(pairs)/12 {
			wantDeleteAtEdge(t, x, pairs, pairs[i].Key)
		}
	}
	if adding[1] == 0 || adding[2] == 0 || adding[3] == 0 || adding[10] == 0 {
		t.Errorf("how many pages were added, how often: %v", adding)
	}
}

func wantDeleteAtEdge(t *testing.T, x named, pairs []api.Pair, key string) {
	t.Helper()
	y := remove(t, x.what, x.Tree, asMap(pairs), key)
	added := y.Next - x.Next
	edge := withNext(x.Tree, topNext-added)
	if z := remove(t, x.what+" with just enough room", edge, asMap(pairs), key); z.Next != topNext {
		t.Errorf("Delete of %q in %s with room for %d: Next %d", key, x.what, added, z.Next)
	}
	if added > 0 {
		wantDeleteRefused(t, x.what+" with too little room", withNext(x.Tree, topNext-added+1), key, api.ErrFull)
		wantDeleteRefused(t, x.what+" without room", withNext(x.Tree, topNext), key, api.ErrFull)
	}
}

// TestP10_2FullByHand: one leaf needs one page; none is needed for what is not there, nor for the empty tree.
func TestP10_2FullByHand(t *testing.T) {
	two := withNext(grown(leaf("a=1", "b=2")), topNext-1)
	if x := put(t, "two pairs", two, asMap(pairsOf("a=1", "b=2")), "c", "3"); x.Next != topNext || x.Root != topNext-1 {
		t.Errorf("Put with room for one: %s", show(x))
	}
	if x := remove(t, "two pairs", two, asMap(pairsOf("a=1", "b=2")), "a"); x.Next != topNext || x.Root != topNext-1 {
		t.Errorf("Delete with room for one: %s", show(x))
	}
	two.Next = topNext
	for _, key := range []string{"a", "b", "c"} {
		wantPutRefused(t, "two pairs, no room", two, key, "2", api.ErrFull)
		wantPutRefused(t, "no pairs, no room", tree.Tree{Next: topNext}, key, "2", api.ErrFull)
	}
	wantDeleteRefused(t, "two pairs, no room", two, "a", api.ErrFull)
	remove(t, "two pairs, no room", two, asMap(pairsOf("a=1", "b=2")), "c")
	remove(t, "no pairs, no room", tree.Tree{Next: topNext}, map[string]string{}, "c")
	last := withNext(grown(leaf("a=1")), topNext)
	if x := remove(t, "one pair, no room", last, asMap(pairsOf("a=1")), "a"); x.Root != 0 || x.Next != topNext {
		t.Errorf("Delete of the last pair without room: %s", show(x))
	}
}

// packed answers an inner plant of leaves of one pair each, filled to the last octet by keys of so many octets that
// all begin with begin.
func packed(begin string, octets int) plant {
	p := plant{kids: []plant{leaf(begin + "=v")}}
	for i := byte('A'); ; i++ {
		key := begin + string([]byte{i})
		key += text(octets - len(key))
		q := plant{keys: append(slices.Clone(p.keys), key), kids: append(slices.Clone(p.kids), leaf(key+"=v"))}
		if over := q.octets() - mostOctets; over > 0 {
			if over > octets-len(begin)-1 {
				return p
			}
			key = key[:octets-over]
			return plant{keys: append(p.keys, key), kids: append(p.kids, leaf(key+"=v"))}
		}
		p = q
	}
}

// TestP10_2Bare: a node that has lost its last key is joined with the one ahead or behind, which may be full.
func TestP10_2Bare(t *testing.T) {
	lone := func(begin string) plant { return inner(begin+"b", leaf(begin+"a=1"), leaf(begin+"b=2")) }
	for _, x := range []struct {
		what string
		p    plant
	}{
		{"the first of two", inner("n", lone("m"), lone("n"))},
		{"two of three", inner("n o", lone("m"), lone("n"), lone("o"))},
		{"beside a full one of long keys", inner("n", lone("m"), packed("n", longestKey))},
		{"behind a full one of long keys", inner("n", packed("m", longestKey), lone("n"))},
		{"beside a full one of short keys", inner("n", lone("m"), packed("n", 2))},
		{"behind a full one of short keys", inner("n", packed("m", 3), lone("n"))},
		{"between full ones", inner("n o", packed("m", longestKey), lone("n"), packed("o", longestKey))},
		{"two deep", inner("o", inner("n", lone("m"), lone("n")), inner("p", lone("o"), lone("p")))},
		{"two deep beside more", inner("o", inner("n", lone("m"), lone("n")), inner("p q", lone("o"), lone("p"), packed("q", 9)))},
		{"two deep behind more", inner("p", inner("n o", lone("m"), lone("n"), packed("o", 9)), inner("q", lone("p"), lone("q")))},
	} {
		start := grown(x.p)
		pairs := all(t, start).pairs
		for _, first := range pairs {
			have := asMap(pairs)
			y := remove(t, x.what, start, have, first.Key)
			for _, second := range asPairs(have) {
				left := maps.Clone(have)
				z := remove(t, x.what+", one less", y, left, second.Key)
				put(t, x.what+", two less", z, left, first.Key, text(longestValue))
			}
		}
	}
}

// TestP10_2Grows: a key between that has become longer may leave no room in the node above, up to the root.
func TestP10_2Grows(t *testing.T) {
	// The short key "n" ahead of the bare node gives way to a long one in a node that is full.
	p := inner("n", packed("m", longestKey), inner("nb", leaf("na=1"), leaf("nb=2")))
	for i := byte('A'); p.octets() < mostOctets; i++ {
		begin := "o" + string([]byte{i})
		key := begin + text(min(longestKey, mostOctets-p.octets()-5)-len(begin))
		p.keys = append(p.keys, key)
		p.kids = append(p.kids, inner(key+"b", leaf(key+"=1"), leaf(key+"b=2")))
		if len(key) == longestKey {
			p.kids[len(p.kids)-1] = inner(key[:31]+"z", leaf(key+"=1"), leaf(key[:31]+"z=2"))
		}
	}
	start := grown(p)
	before := all(t, start)
	have := asMap(before.pairs)
	y := remove(t, "a full root", start, have, "na")
	after := all(t, y)
	if after.deep[0] != before.deep[0]+1 {
		t.Errorf("Delete in a full root: %d deep, was %d; want one more", after.deep[0], before.deep[0])
	}
	for _, key := range near(after.pairs) {
		put(t, "one that has grown", y, maps.Clone(have), key, "new")
		remove(t, "one that has grown", y, maps.Clone(have), key)
	}
}

// TestP10_2Heavy: a leaf is cut by octets, so that the heaviest pair has room wherever it comes.
func TestP10_2Heavy(t *testing.T) {
	heavy := func(key string) api.Pair { return api.Pair{Key: key + text(longestKey-1), Value: text(longestValue)} }
	light := func(key string) api.Pair { return api.Pair{Key: key} }
	for _, pairs := range [][]api.Pair{
		{heavy("b"), heavy("d"), {Key: "f", Value: text(43)}},
		{{Key: "b", Value: text(43)}, heavy("d"), heavy("f")},
		{heavy("b"), {Key: "d", Value: text(43)}, heavy("f")},
		{light("b"), light("d"), light("f"), heavy("h"), heavy("j")},
		{heavy("b"), heavy("d"), light("f"), light("h"), light("j")},
		{heavy("b"), light("d"), light("f"), light("h"), heavy("j")},
	} {
		x := grown(plant{pairs: pairs})
		for i := byte('a'); i < 'l'; i++ {
			p := heavy(string([]byte{i}))
			put(t, "heavy pairs", x, asMap(pairs), p.Key, p.Value)
		}
		for _, p := range pairs {
			put(t, "heavy pairs", x, asMap(pairs), p.Key, text(longestValue))
		}
	}
}

// TestP10_2PutAtEnds: a leaf of 244 octets stays one, one more octet makes it two.
func TestP10_2PutAtEnds(t *testing.T) {
	pairs := fullPairs()
	last := pairs[3]
	x := grown(plant{pairs: pairs[:3]})
	if y := put(t, "three pairs", x, asMap(pairs[:3]), last.Key, last.Value); len(y.Pages) != 2 {
		t.Errorf("Put up to 244 octets: %d pages", len(y.Pages))
	}
	if y := put(t, "three pairs", x, asMap(pairs[:3]), last.Key, last.Value+"x"); len(y.Pages) != 4 {
		t.Errorf("Put up to 245 octets: %d pages", len(y.Pages))
	}
}

// asked are ends of a Scan: every kind of place among pairs.
func asked(pairs []api.Pair) []string {
	return append([]string{text(longestKey + 1), text(300), strings.Repeat("\xff", 300), "\x00\x00", ""}, some(near(pairs), 16)...)
}

func TestP10_3Scan(t *testing.T) {
	for _, x := range mayBe() {
		pairs := all(t, x.Tree).pairs
		ends := asked(pairs)
		if len(x.Pages) > 60 {
			ends = ends[4:12]
		}
		for _, from := range ends {
			for _, to := range ends {
				var want []api.Pair
				for _, p := range pairs {
					if bytes.Compare([]byte(p.Key), []byte(from)) >= 0 && (len(to) == 0 || bytes.Compare([]byte(p.Key), []byte(to)) < 0) {
						want = append(want, p)
					}
				}
				wantScan(t, x.what, x.Tree, from, to, want)
			}
		}
		wantScan(t, x.what, x.Tree, "", "", pairs)
	}
}

// TestP10_3ScanByHand: the chapter's words in keys.
func TestP10_3ScanByHand(t *testing.T) {
	x := grown(threeDeep())
	for _, c := range []struct{ from, to, want string }{
		{"", "", "abchilmnq"}, {"", "a", ""}, {"", "b", "a"}, {"a", "", "abchilmnq"}, {"a\x00", "", "bchilmnq"},
		{"b", "c", "b"}, {"b", "c\x00", "bc"}, {"c", "m", "chil"}, {"c", "n", "chilm"}, {"d", "h", ""}, {"d", "i", "h"},
		{"m", "m", ""}, {"n", "m", ""}, {"q", "", "q"}, {"q", "a", ""}, {"r", "", ""}, {"\xff", "", ""}, {"", "\xff", "abchilmnq"},
		{"i", "\xff", "ilmnq"}, {text(100), "", ""}, {"", text(100), "abchilmnq"}, {"", "\x00", ""}, {"l", "p", "lmn"},
	} {
		l, err := tree.Scan(x, c.from, c.to)
		got := ""
		for _, p := range l {
			got += p.Key
		}
		if err != api.OK || got != c.want {
			t.Errorf("Scan from %.20q to %.20q: %q, %d; want %q", c.from, c.to, got, err, c.want)
		}
	}
}

// TestP10_3At: each page of a tree is a root that may be, or is not, by another hand.
func TestP10_3At(t *testing.T) {
	for _, x := range few() {
		roots := []int{0}
		for _, p := range x.Pages {
			roots = append(roots, p.ID)
		}
		for _, root := range roots {
			want := withRoot(x.Tree, root)
			y, err := tree.At(x.Tree, root)
			if _, bad := surveyed(want); bad != nil {
				if err != api.ErrState || !same(y, tree.Tree{}) {
					t.Errorf("At %d of %s: %s, %d; want %d alone", root, x.what, show(y), err, api.ErrState)
				}
				continue
			}
			if err != api.OK || !same(y, want) {
				t.Errorf("At %d of %s: %s, %d; want %s", root, x.what, show(y), err, show(want))
			}
		}
		for _, root := range []int{-1, -2, 91, x.Next, x.Next + 1, topNext, topNext + 1, 1 << 32, 1<<32 + 1, math.MaxInt, math.MinInt, math.MinInt + 1} {
			if y, err := tree.At(x.Tree, root); err != api.ErrNone || !same(y, tree.Tree{}) {
				t.Errorf("At %d of %s: %s, %d; want %d alone", root, x.what, show(y), err, api.ErrNone)
			}
		}
	}
}

// TestP10_3AtStray: a page that is not reached may be a root or not.
func TestP10_3AtStray(t *testing.T) {
	told := map[api.Errno]int{}
	a := grown(threeDeep())
	for i, data := range stray() {
		x := withPages(a, tree.Page{ID: 90, Data: data})
		y, err := tree.At(x, 90)
		told[err]++
		if want := withRoot(x, 90); err == api.OK && !same(y, want) {
			t.Errorf("At stray page %d: %s; want %s", i, show(y), show(want))
		}
		if y, err := tree.At(withRoot(x, 0), a.Root); err != api.OK || !same(y, x) {
			t.Errorf("At the root, from the empty tree, with stray page %d: %s, %d", i, show(y), err)
		}
	}
	if told[api.OK] != 1 || told[api.ErrState] != len(stray())-1 {
		t.Errorf("At stray pages: %v", told)
	}
}

// orders are orders of n keys.
func orders(n int) map[string][]int {
	rising, mixed := make([]int, n), make([]int, n)
	for i := range n {
		rising[i] = i
		mixed[i] = i * 7919 % n
	}
	falling := slices.Clone(rising)
	slices.Reverse(falling)
	return map[string][]int{"rising": rising, "falling": falling, "mixed": mixed}
}

// TestP10_4Orders: keys put and deleted in each order, against a map; down to the empty tree and on from there.
func TestP10_4Orders(t *testing.T) {
	const n = 230
	for in, puts := range orders(n) {
		for out, deletes := range orders(n) {
			x, have := tree.New(), map[string]string{}
			what := in + ", then " + out
			key := func(i int) string { return fmt.Sprintf("%03d", i) + text(i*7%(longestKey-2)) }
			for _, i := range puts {
				x = swept(t, put(t, what, x, have, key(i), text(i%(longestValue+1))))
			}
			for _, i := range deletes {
				x = swept(t, remove(t, what, x, have, key(i)))
			}
			if x.Root != 0 || len(have) != 0 {
				t.Errorf("%s: %d pairs are left below root %d", what, len(have), x.Root)
			}
			x = put(t, what, x, have, "on", "from there")
			wantGet(t, what, x, have, "on")
		}
	}
}

// TestP10_4Run: long runs by chance, from wild trees on, against a map.
func TestP10_4Run(t *testing.T) {
	roll := dice(104)
	for run := range 60 {
		x := grown(wild(roll, 1+roll(200)))
		have := asMap(all(t, x).pairs)
		what := fmt.Sprintf("run %d", run)
		gone := 2 + roll(5)
		for range 60 {
			key := chanceKey(roll)
			if keys := slices.Sorted(maps.Keys(have)); len(keys) > 0 && roll(3) > 0 {
				key = keys[roll(len(keys))]
			}
			if roll(8) < gone {
				x = remove(t, what, x, have, key)
			} else {
				x = put(t, what, x, have, key, text(roll(longestValue+1)))
			}
			x = swept(t, x)
			wantGet(t, what, x, have, key)
			wantGet(t, what, x, have, chanceKey(roll))
		}
		from, to := chanceKey(roll), chanceKey(roll)
		want := slices.DeleteFunc(asPairs(have), func(p api.Pair) bool { return p.Key < from || p.Key >= to })
		wantScan(t, what, x, from, to, want)
	}
}

// TestP10_4ToTheMost: a tree filled up to 4096 pairs by Put alone.
func TestP10_4ToTheMost(t *testing.T) {
	x, have := tree.New(), map[string]string{}
	for i := range mostPairs {
		key := fmt.Sprintf("%05d", i*1237%mostPairs)
		var err api.Errno
		if x, err = tree.Put(x, key, ""); err != api.OK {
			t.Fatalf("Put of %q: %d", key, err)
		}
		have[key] = ""
		if i%16 == 0 {
			x = swept(t, x)
		}
	}
	wantScan(t, "4096 pairs", x, "", "", asPairs(have))
	if f := all(t, x); f.deep[0] > 4 {
		t.Errorf("4096 pairs put: %d deep", f.deep[0])
	}
	wantPutRefused(t, "4096 pairs", x, "more", "", api.ErrFull)
}

// TestP10_5Roots: each earlier root has the pairs that it had, and by At one goes on from there.
func TestP10_5Roots(t *testing.T) {
	roll := dice(105)
	x, have := tree.New(), map[string]string{}
	type moment struct {
		root int
		have map[string]string
	}
	moments := []moment{{0, map[string]string{}}}
	for step := range 300 {
		key := fmt.Sprintf("%d", roll(90))
		if roll(5) < 2 {
			x = remove(t, "a run", x, have, key)
		} else {
			x = put(t, "a run", x, have, key, text(roll(longestValue)))
		}
		moments = append(moments, moment{x.Root, maps.Clone(have)})
		if step%60 == 59 {
			back := moments[roll(len(moments))]
			earlier, err := tree.At(x, back.root)
			if err != api.OK {
				t.Fatalf("At the earlier root %d: %d", back.root, err)
			}
			x, have = earlier, maps.Clone(back.have)
		}
	}
	for _, m := range moments {
		earlier, err := tree.At(x, m.root)
		if err != api.OK || earlier.Next != x.Next || !slices.EqualFunc(earlier.Pages, x.Pages, samePage) {
			t.Errorf("At root %d: %s, %d", m.root, show(earlier), err)
		}
		wantScan(t, fmt.Sprintf("root %d", m.root), earlier, "", "", asPairs(m.have))
	}
}

// TestNilAndEmpty: nil and empty lists are one to every call.
func TestNilAndEmpty(t *testing.T) {
	for _, x := range []tree.Tree{tree.New(), {Root: 1, Next: 2}, withRoot(one(1, nil), 0), one(1, nil), withPages(one(1, leafData(pairsOf("a=1"))), tree.Page{ID: 2})} {
		y := x
		y.Pages = append([]tree.Page{}, x.Pages...)
		for i := range y.Pages {
			y.Pages[i].Data = append([]byte{}, y.Pages[i].Data...)
		}
		if tree.Check(x) != tree.Check(y) {
			t.Errorf("Check of %s: nil and empty are not one", show(x))
		}
		a, errA := tree.Put(x, "b", "2")
		b, errB := tree.Put(y, "b", "2")
		if errA != errB || !same(a, b) {
			t.Errorf("Put in %s: nil and empty are not one", show(x))
		}
		a, _, errA = tree.Delete(x, "a")
		b, _, errB = tree.Delete(y, "a")
		if errA != errB || !same(a, b) {
			t.Errorf("Delete in %s: nil and empty are not one", show(x))
		}
		a, errA = tree.At(x, 0)
		b, errB = tree.At(y, 0)
		if errA != errB || !same(a, b) {
			t.Errorf("At 0 of %s: nil and empty are not one", show(x))
		}
	}
}

// TestSameAgain: the same arguments, the same answers, from many goroutines at once too.
func TestSameAgain(t *testing.T) {
	x := grown(wide(numbered(200), 9, 4))
	want, _ := tree.Put(x, "000100", text(longestValue))
	less, _, _ := tree.Delete(x, "000101")
	pairs := all(t, x).pairs
	var wait sync.WaitGroup
	for range 8 {
		wait.Go(func() {
			for range 30 {
				y, err := tree.Put(x, "000100", text(longestValue))
				z, there, errD := tree.Delete(x, "000101")
				l, errS := tree.Scan(x, "", "")
				if err != api.OK || errD != api.OK || errS != api.OK || !there || !same(y, want) || !same(z, less) || !slices.Equal(l, pairs) {
					t.Error("another answer beside other goroutines")
					return
				}
			}
		})
	}
	wait.Wait()
}
