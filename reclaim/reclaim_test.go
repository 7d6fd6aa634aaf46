package reclaim_test

import (
	"fmt"
	"maps"
	"math"
	"slices"
	"sync"
	"testing"

	"transept/api"
	"transept/reclaim"
	"transept/tree"
)

// wantRefused: Live and Sweep tell that error and nothing else.
func wantRefused(t *testing.T, what string, x tree.Tree, roots []int, want api.Errno) {
	t.Helper()
	if l, err := reclaim.Live(x, roots); err != want || len(l) != 0 {
		t.Errorf("Live of %s, roots %d: %d, %d; want %d alone", what, roots, l, err, want)
	}
	if y, n, err := reclaim.Sweep(x, roots); err != want || n != 0 || !same(y, tree.Tree{}) {
		t.Errorf("Sweep of %s, roots %d: %s, %d, %d; want %d alone", what, roots, show(y), n, err, want)
	}
}

// wantLive: Live tells just these numbers, and Sweep leaves just these pages of x, Root and Next as they were. It
// answers what Sweep left.
func wantLive(t *testing.T, what string, x tree.Tree, roots []int, want []int) tree.Tree {
	t.Helper()
	if l, err := reclaim.Live(x, roots); err != api.OK || !slices.Equal(l, want) {
		t.Errorf("Live of %s, roots %d: %d, %d; want %d", what, roots, l, err, want)
	}
	y, n, err := reclaim.Sweep(x, roots)
	if left := only(x, want); err != api.OK || n != len(x.Pages)-len(want) || !same(y, left) {
		t.Fatalf("Sweep of %s, roots %d: %s, %d, %d; want %s, %d", what, roots, show(y), n, err, show(left), len(x.Pages)-len(want))
	}
	return y
}

// wantReached: as wantLive, for the pages that are reached by another hand.
func wantReached(t *testing.T, what string, x tree.Tree, roots []int) tree.Tree {
	t.Helper()
	return wantLive(t, what, x, roots, reachedFrom(x, append([]int{x.Root}, roots...)...))
}

// wantPairs: at that root x has these pairs.
func wantPairs(t *testing.T, what string, x tree.Tree, root int, want map[string]string) {
	t.Helper()
	y, err := tree.At(x, root)
	if err != api.OK {
		t.Errorf("%s: At %d: %d", what, root, err)
		return
	}
	if l, err := tree.Scan(y, "", ""); err != api.OK || !slices.Equal(l, asPairs(want)) {
		t.Errorf("%s: at root %d: %.300q, %d; want %.300q", what, root, l, err, asPairs(want))
	}
}

func put(t *testing.T, x tree.Tree, key, value string) tree.Tree {
	t.Helper()
	y, err := tree.Put(x, key, value)
	if err != api.OK {
		t.Fatalf("Put of %q in %s: %d", key, show(x), err)
	}
	return y
}

// TestP11Example: the chapter's.
func TestP11Example(t *testing.T) {
	a := put(t, tree.New(), "a", "1")
	b := put(t, a, "a", "2")
	if len(b.Pages) != 2 {
		t.Fatalf("Put a, Put a again: %d pages", len(b.Pages))
	}
	for _, none := range [][]int{nil, {}} {
		x, n, err := reclaim.Sweep(b, none)
		if want := (tree.Tree{Root: 2, Next: 3, Pages: b.Pages[1:]}); n != 1 || err != api.OK || !same(x, want) {
			t.Errorf("Sweep without roots: %s, %d, %d; want %s, 1", show(x), n, err, show(want))
		}
		if l, err := reclaim.Live(b, none); err != api.OK || !slices.Equal(l, []int{2}) {
			t.Errorf("Live without roots: %d, %d; want 2", l, err)
		}
	}
	wantLive(t, "a twice", b, []int{1}, []int{1, 2})
	wantLive(t, "a twice, at the first root", withRoot(b, 1), nil, []int{1})
}

// TestP11_1ByHand: which pages of a forest each set of roots needs.
func TestP11_1ByHand(t *testing.T) {
	own := []int{3, 4, 12, 20}
	all := []int{3, 4, 6, 7, 9, 11, 12, 15, 16, 17, 20}
	for _, c := range []struct{ roots, want []int }{
		{nil, own},
		{[]int{}, own},
		{[]int{0}, own},
		{[]int{20}, own},
		{[]int{20, 20, 0, 20}, own},
		{[]int{3}, own},
		{[]int{12, 4, 3}, own},
		{[]int{6}, []int{3, 4, 6, 12, 20}},
		{[]int{6, 6}, []int{3, 4, 6, 12, 20}},
		{[]int{0, 6, 0, 20}, []int{3, 4, 6, 12, 20}},
		{[]int{7}, []int{3, 4, 7, 9, 12, 20}},
		{[]int{9}, []int{3, 4, 9, 12, 20}},
		{[]int{7, 6}, []int{3, 4, 6, 7, 9, 12, 20}},
		{[]int{15}, []int{3, 4, 11, 12, 15, 16, 17, 20}},
		{[]int{16}, []int{3, 4, 11, 12, 16, 17, 20}},
		{[]int{17, 16}, []int{3, 4, 11, 12, 16, 17, 20}},
		{[]int{15, 7, 6}, all},
		{[]int{6, 7, 15}, all},
		{[]int{17, 16, 15, 12, 11, 9, 7, 6, 4, 3, 0, 20}, all},
		{[]int{3, 4, 6, 7, 9, 11, 12, 15, 16, 17, 20, 3, 4, 6, 7, 9}, all},
	} {
		wantLive(t, "the forest", forest(), c.roots, c.want)
		wantLive(t, "the forest, Next at the most", withNext(forest(), topNext), c.roots, c.want)
	}
	for _, c := range []struct {
		root        int
		roots, want []int
	}{
		{0, nil, nil},
		{0, []int{0}, nil},
		{0, []int{6}, []int{6}},
		{0, []int{7}, []int{7, 9, 12}},
		{0, []int{12, 7, 6}, []int{6, 7, 9, 12}},
		{6, nil, []int{6}},
		{6, []int{0}, []int{6}},
		{6, []int{9}, []int{6, 9}},
		{15, []int{7}, []int{3, 4, 7, 9, 11, 12, 15, 16, 17, 20}},
		{7, []int{16}, []int{7, 9, 11, 12, 16, 17}},
	} {
		wantLive(t, fmt.Sprintf("the forest, root %d", c.root), withRoot(forest(), c.root), c.roots, c.want)
	}
}

// repeated answers so many equal roots.
func repeated(root, n int) []int { return slices.Repeat([]int{root}, n) }

// TestP11_1Count: 16 roots and no more, whether they are equal or none at all.
func TestP11_1Count(t *testing.T) {
	for _, x := range []named{{"the forest", forest()}, {"the forest, empty", withRoot(forest(), 0)}, {"the empty store", tree.New()}} {
		for n := range 2*mostRoots + 3 {
			for _, root := range []int{0, x.Root} {
				if n > mostRoots {
					wantRefused(t, x.what, x.Tree, repeated(root, n), api.ErrCount)
					continue
				}
				wantReached(t, x.what, x.Tree, repeated(root, n))
			}
		}
		for _, n := range []int{mostRoots + 1, 256, 256 + 1, 1 << 16, 1<<16 + 1} {
			for _, root := range []int{-1, 30, 99, math.MaxInt} {
				wantRefused(t, x.what, x.Tree, repeated(root, n), api.ErrCount)
				wantRefused(t, x.what, x.Tree, append(repeated(0, n), root), api.ErrCount)
				wantRefused(t, x.what, x.Tree, append([]int{root}, repeated(0, n)...), api.ErrCount)
			}
		}
	}
	f := forest()
	ids := []int{3, 4, 6, 7, 9, 11, 12, 15, 16, 17, 20, 0, 3, 4, 6, 7}
	wantReached(t, "the forest", f, ids)
	wantRefused(t, "the forest", f, append(ids, 9), api.ErrCount)
}

// TestP11_1CheckFirst: a store that may not be is told ahead of all that is wrong with roots.
func TestP11_1CheckFirst(t *testing.T) {
	for _, x := range mayNotBe() {
		for _, roots := range [][]int{
			nil, {}, {0}, {x.Root}, {6}, {20}, {30}, {99}, {-1}, {0, 99}, {x.Next, 30}, {math.MaxInt}, {math.MinInt},
			repeated(0, mostRoots), repeated(0, mostRoots+1), repeated(99, mostRoots+1), repeated(30, 1000),
		} {
			wantRefused(t, x.what, x.Tree, roots, api.ErrState)
		}
	}
}

// noPages are numbers that no page of the forest has.
func noPages() []int {
	return []int{-1, -2, -20, 1, 2, 5, 8, 10, 19, 21, 29, 31, 32, 99, topNext - 1, topNext, topNext + 1, topNext + 20,
		1 << 31, 1<<31 + 20, 1 << 32, 1<<32 + 20, -1 << 31, -1 << 32, 20 - 1<<32, math.MaxInt, math.MaxInt - 1, math.MinInt, math.MinInt + 20}
}

// TestP11_1NoRoots: numbers that no page has, in each place among roots.
func TestP11_1NoRoots(t *testing.T) {
	for _, x := range []named{{"the forest", forest()}, {"the forest, Next at the most", withNext(forest(), topNext)}, {"the forest, empty", withRoot(forest(), 0)}} {
		for _, root := range noPages() {
			for n := range mostRoots {
				wantRefused(t, x.what, x.Tree, append(repeated(6, n), root), api.ErrNone)
				wantRefused(t, x.what, x.Tree, append([]int{root}, repeated(6, n)...), api.ErrNone)
			}
			wantRefused(t, x.what, x.Tree, append(append(repeated(7, 8), root), repeated(6, 7)...), api.ErrNone)
		}
	}
	for _, root := range append(noPages(), 20) {
		wantRefused(t, "the empty store", tree.New(), []int{root}, api.ErrNone)
		wantRefused(t, "the empty store, Next at the most", tree.Tree{Next: topNext}, []int{0, root}, api.ErrNone)
	}
}

// badPages are octets of a page 30 from which no tree of the forest may be.
func badPages() map[string][]byte {
	return map[string][]byte{
		"nil":                      nil,
		"empty":                    {},
		"no node":                  []byte("no node"),
		"a kind that is none":      {2, 0},
		"a leaf without pairs":     leafData(),
		"a leaf cut short":         leafData("a")[:4],
		"a leaf with a tail":       append(leafData("a"), 0),
		"a leaf whose keys fall":   leafData("b", "a"),
		"an inner one without key": innerData("", 6),
		"a Kid that is lacking":    innerData("m", 4, 5),
		"a Kid at Next":            innerData("m", 4, 31),
		"a Kid beyond the most":    innerData("m", 4, topNext+1),
		"a Kid 0":                  innerData("m", 0, 12),
		"itself":                   innerData("m", 4, 30),
		"one Kid twice":            innerData("m", 4, 4),
		"a leaf by two ways":       innerData("m", 20, 7),
		"leaves at two depths":     innerData("t", 20, 11),
		"keys of another place":    innerData("b", 6, 4),
	}
}

// TestP11_1BadRoots: pages from which no tree may be say nothing, till they are named as a root.
func TestP11_1BadRoots(t *testing.T) {
	for what, data := range badPages() {
		x := withPage(forest(), 30, data)
		what = "the forest with " + what
		wantLive(t, what, x, nil, []int{3, 4, 12, 20})
		wantLive(t, what, x, []int{7}, []int{3, 4, 7, 9, 12, 20})
		for n := range mostRoots {
			wantRefused(t, what, x, append(repeated(6, n), 30), api.ErrState)
			wantRefused(t, what, x, append([]int{30}, repeated(6, n)...), api.ErrState)
		}
		wantRefused(t, what, withRoot(x, 0), []int{30}, api.ErrState)
		wantRefused(t, what, x, append(repeated(6, mostRoots), 30), api.ErrCount)
	}
	lacking := without(forest(), 11)
	wantLive(t, "the forest without 11", lacking, []int{17}, []int{3, 4, 12, 17, 20})
	wantRefused(t, "the forest without 11", lacking, []int{16}, api.ErrState)
	wantRefused(t, "the forest without 11", lacking, []int{15}, api.ErrState)
	wantRefused(t, "the forest without 11", lacking, []int{11}, api.ErrNone)
}

// TestP11_1FirstError: of two roots that are wrong the first one's error is told.
func TestP11_1FirstError(t *testing.T) {
	x := withPage(forest(), 31, leafData())
	for _, c := range []struct {
		roots []int
		want  api.Errno
	}{
		{[]int{99, 30}, api.ErrNone},
		{[]int{30, 99}, api.ErrState},
		{[]int{31, 99}, api.ErrState},
		{[]int{30, 31}, api.ErrState},
		{[]int{-1, math.MaxInt}, api.ErrNone},
		{[]int{20, 0, 99, 7, 30}, api.ErrNone},
		{[]int{20, 0, 31, 7, 99}, api.ErrState},
		{[]int{-1, 30, 99, 31}, api.ErrNone},
		{[]int{0, 30, -1, 31}, api.ErrState},
		{append(repeated(6, 14), 99, 30), api.ErrNone},
		{append(repeated(6, 14), 30, 99), api.ErrState},
		{append([]int{99}, append(repeated(6, 14), 30)...), api.ErrNone},
		{append([]int{30}, append(repeated(6, 14), 99)...), api.ErrState},
		{append(repeated(6, 15), 99, 30), api.ErrCount},
		{append(repeated(6, 15), 30, 99), api.ErrCount},
	} {
		wantRefused(t, "the forest", x, c.roots, c.want)
		wantRefused(t, "the forest, empty", withRoot(x, 0), c.roots, c.want)
	}
}

// TestP11Empty: an empty store, with pages that are not reached and without.
func TestP11Empty(t *testing.T) {
	for _, x := range []named{
		{"the new one", tree.New()},
		{"one with an empty list", tree.Tree{Next: 1, Pages: []tree.Page{}}},
		{"one with Next at the most", tree.Tree{Next: topNext}},
		{"one beside a page", tree.Tree{Next: 2, Pages: []tree.Page{{ID: 1, Data: leafData("a")}}}},
		{"one beside a page without octets", tree.Tree{Next: 2, Pages: []tree.Page{{ID: 1}}}},
		{"one beside the forest", withRoot(forest(), 0)},
	} {
		for _, roots := range [][]int{nil, {}, {0}, {0, 0}, repeated(0, mostRoots)} {
			wantLive(t, x.what, x.Tree, roots, nil)
		}
	}
	x, _, err := tree.Delete(put(t, put(t, tree.New(), "a", "1"), "a", "2"), "a")
	if err != api.OK || x.Root != 0 {
		t.Fatalf("Delete of the last pair: %s, %d", show(x), err)
	}
	wantLive(t, "one whose last pair went", x, nil, nil)
	wantLive(t, "one whose last pair went", x, []int{2}, []int{2})
	wantLive(t, "one whose last pair went", x, []int{2, 1}, []int{1, 2})
}

// TestP11ByChance: stores that changes made, as they are and with other numbers, and roots of all kinds, against
// another hand.
func TestP11ByChance(t *testing.T) {
	roll := dice(111)
	deepest := 0
	for run := range 60 {
		x, moments := played(t, roll, 1+roll(200), 5+roll(150), roll(60))
		y, roots := renumbered(roll, x, rootsOf(moments))
		for range 8 {
			few := some(roll, rootsOf(moments), roll(mostRoots+1))
			wantReached(t, fmt.Sprintf("run %d", run), x, few)
			back := withRoot(x, moments[roll(len(moments))].root)
			wantReached(t, fmt.Sprintf("run %d, at an earlier root", run), back, few)
			wantReached(t, fmt.Sprintf("run %d, with other numbers", run), y, some(roll, roots, roll(mostRoots+1)))
		}
		deepest = max(deepest, deep(x))
		for range 8 {
			// Every page that Put or Delete made is a root, not only those that were.
			few := some(roll, y.Pages, 1+roll(3))
			var ids []int
			for _, p := range few {
				ids = append(ids, p.ID)
			}
			wantReached(t, fmt.Sprintf("run %d, pages as roots", run), y, ids)
		}
	}
	if deepest < 3 {
		t.Errorf("the deepest tree is only %d deep", deepest)
	}
}

// TestP11_3Sets: behind a sweep with each set of some roots all that were named have their pairs, and no others are
// left but those whose pages are all needed.
func TestP11_3Sets(t *testing.T) {
	x, moments := played(t, dice(113), 60, 30, 25)
	last := moments[len(moments)-1]
	for set := range 1 << 7 {
		var kept []moment
		for i := range 7 {
			if set>>i&1 != 0 {
				kept = append(kept, moments[i*8])
			}
		}
		what := fmt.Sprintf("set %b", set)
		roots := rootsOf(kept)
		y := wantReached(t, what, x, roots)
		wantPairs(t, what, y, y.Root, last.have)
		for _, m := range kept {
			wantPairs(t, what, y, m.root, m.have)
		}
		for _, m := range moments {
			if there := m.root == 0 || slices.Contains(reachedFrom(x, append(roots, x.Root)...), m.root); there {
				wantPairs(t, what, y, m.root, m.have)
			} else if _, err := tree.At(y, m.root); err != api.ErrNone {
				t.Errorf("%s: At root %d, whose page went: %d; want %d", what, m.root, err, api.ErrNone)
			}
		}
	}
}

// TestP11_3Run: long runs of changes that go on behind sweeps, roots being kept and dropped on the way.
func TestP11_3Run(t *testing.T) {
	roll := dice(1130)
	for run := range 12 {
		x, have := tree.New(), map[string]string{}
		kept := []moment{{0, map[string]string{}}}
		keys, deletes := 10+roll(120), 10+roll(50)
		for step := range 240 {
			next := x.Next
			x = change(t, roll, x, have, keys, deletes)
			if x.Next < next {
				t.Fatalf("run %d: Next from %d to %d", run, next, x.Next)
			}
			if len(kept) == mostRoots {
				at := roll(len(kept))
				kept = slices.Delete(kept, at, at+1)
			}
			if roll(3) == 0 {
				kept = append(kept, moment{x.Root, maps.Clone(have)})
			}
			if roll(4) > 0 {
				continue
			}
			what := fmt.Sprintf("run %d, step %d", run, step)
			x = wantReached(t, what, x, rootsOf(kept))
			if err := tree.Check(x); err != api.OK {
				t.Fatalf("%s: Check: %d", what, err)
			}
			wantPairs(t, what, x, x.Root, have)
			for _, m := range kept {
				wantPairs(t, what, x, m.root, m.have)
			}
			if roll(10) == 0 && len(kept) > 0 {
				back := kept[roll(len(kept))]
				x, have = withRoot(x, back.root), maps.Clone(back.have)
			}
		}
	}
}

// TestP11_3GoesOn: the same changes behind a sweep and without one lead to the same pages, by their numbers and octets.
func TestP11_3GoesOn(t *testing.T) {
	x, moments := played(t, dice(1131), 80, 40, 20)
	y, _, err := reclaim.Sweep(x, []int{moments[40].root})
	if err != api.OK {
		t.Fatal("Sweep:", err)
	}
	have, haveToo := maps.Clone(moments[80].have), maps.Clone(moments[80].have)
	one, other := dice(7), dice(7)
	for range 80 {
		x, y = change(t, one, x, have, 40, 40), change(t, other, y, haveToo, 40, 40)
		if !same(y, only(x, slices.Sorted(maps.Keys(pagesOf(y))))) {
			t.Fatalf("behind a sweep: %s; without one: %s", show(y), show(x))
		}
	}
	wantPairs(t, "behind a sweep", y, moments[40].root, moments[40].have)
	wantPairs(t, "behind a sweep", y, y.Root, have)
}

// TestP11_3Full: a sweep gives no numbers back: Next stays, and at MaxPages there is no room for a page more.
func TestP11_3Full(t *testing.T) {
	x := withNext(forest(), topNext)
	y := wantReached(t, "the forest, Next at the most", x, nil)
	if _, err := tree.Put(y, "a", "1"); err != api.ErrFull {
		t.Errorf("Put behind a sweep, Next at the most: %d; want %d", err, api.ErrFull)
	}
	y = wantReached(t, "the forest, room for two", withNext(x, topNext-2), nil)
	if y = put(t, y, "a", "1"); y.Next != topNext {
		t.Errorf("Put behind a sweep, room for two: Next %d", y.Next)
	}
}

// TestP11_4Again: a second sweep with the same roots, in whatever order and however often named, takes none.
func TestP11_4Again(t *testing.T) {
	roll := dice(114)
	for run := range 40 {
		x, moments := played(t, roll, 1+roll(100), 5+roll(50), roll(60))
		x, all := renumbered(roll, x, rootsOf(moments))
		roots := some(roll, all, roll(mostRoots+1))
		first, _, err := reclaim.Sweep(x, roots)
		if err != api.OK {
			t.Fatalf("run %d: Sweep: %d", run, err)
		}
		back, once := slices.Clone(roots), slices.Clone(roots)
		slices.Reverse(back)
		slices.Sort(once)
		once = slices.Compact(once)
		for _, again := range [][]int{roots, back, once, append(slices.Clone(once), once...)[:min(2*len(once), mostRoots)]} {
			y, n, err := reclaim.Sweep(first, again)
			if err != api.OK || n != 0 || !same(y, first) {
				t.Errorf("run %d: a second sweep with roots %d: %s, %d, %d; want %s, 0", run, again, show(y), n, err, show(first))
			}
		}
		less, n, err := reclaim.Sweep(first, nil)
		direct, m, _ := reclaim.Sweep(x, nil)
		if err != api.OK || !same(less, direct) || n+len(x.Pages)-len(first.Pages) != m {
			t.Errorf("run %d: two sweeps take %d and %d pages, one takes %d", run, len(x.Pages)-len(first.Pages), n, m)
		}
	}
}

// TestP11_5Own: without roots just the tree's own pages are left, and the tree has its pairs.
func TestP11_5Own(t *testing.T) {
	roll := dice(115)
	for run := range 30 {
		x, moments := played(t, roll, 1+roll(150), 5+roll(60), roll(70))
		m := moments[roll(len(moments))]
		x.Root = m.root
		what := fmt.Sprintf("run %d", run)
		y := wantLive(t, what, x, nil, reachedFrom(x, x.Root))
		wantPairs(t, what, y, y.Root, m.have)
		for _, p := range y.Pages {
			if y.Root == 0 || tree.Check(without(y, p.ID)) != api.ErrState {
				t.Errorf("%s: page %d is left and not needed", what, p.ID)
			}
		}
	}
}

// TestP11Deep: as deep as a tree of 4096 pairs can be, its pages in whatever order; some below the root as roots, too.
func TestP11Deep(t *testing.T) {
	const levels = 13
	roll := dice(117)
	x, roots := renumbered(roll, twoWays(levels), []int{1, mostPairs, mostPairs + 1, 2*mostPairs - 2, 2*mostPairs - 3})
	if deep(x) != levels || tree.Check(x) != api.OK {
		t.Fatalf("the test's own fault: %d deep", deep(x))
	}
	whole := wantReached(t, "13 deep", x, nil)
	if !same(whole, x) {
		t.Errorf("Sweep of a tree 13 deep: %s", show(whole))
	}
	wantReached(t, "13 deep", x, roots)
	for _, root := range roots {
		half := wantReached(t, "13 deep, from below", withRoot(x, root), nil)
		if deep(half) > levels-1 {
			t.Errorf("from page %d on: %d deep", root, deep(half))
		}
		wantReached(t, "13 deep, from below", withRoot(x, root), roots)
	}
}

// TestP11Most: stores at the limits: 4096 pairs and one more below a root, 65535 pages, 16 roots among them.
func TestP11Most(t *testing.T) {
	most, over := wide(mostPairs), wide(mostPairs+1)
	if err := tree.Check(withRoot(most, widest)); err != api.OK {
		t.Fatalf("the test's own fault: %d", err)
	}
	wantReached(t, "4096 pairs", most, []int{widest})
	wantReached(t, "4096 pairs", withRoot(most, widest), []int{2000, 2001, 1000})
	wantReached(t, "4097 pairs, some of them", withRoot(over, 2000), []int{2001, 2002, 2010, 760})
	wantRefused(t, "4097 pairs", over, []int{widest}, api.ErrState)
	wantRefused(t, "4097 pairs", withRoot(over, 2000), []int{2001, widest, 99}, api.ErrState)

	pages := map[int][]byte{}
	for id := 1; id < topNext; id++ {
		pages[id] = leafData(fmt.Sprintf("%05d", id))
	}
	pages[50] = innerData("20000 40000", 10, 30000, topNext-1)
	x := store(50, pages)
	if x.Next != topNext || len(x.Pages) != topNext-1 {
		t.Fatalf("the test's own fault: %d pages", len(x.Pages))
	}
	wantLive(t, "65535 pages", x, nil, []int{10, 50, 30000, topNext - 1})
	wantLive(t, "65535 pages", x, []int{1, topNext - 2, 2, 10}, []int{1, 2, 10, 50, 30000, topNext - 2, topNext - 1})
	var roots []int
	for i := range mostRoots {
		roots = append(roots, topNext-1-i*4000)
	}
	wantReached(t, "65535 pages", x, roots)
	wantRefused(t, "65535 pages", x, append(roots[:mostRoots-1], topNext), api.ErrNone)
}

// TestNilAndEmpty: nil and empty lists are one to every call.
func TestNilAndEmpty(t *testing.T) {
	for _, x := range []tree.Tree{tree.New(), {Root: 1, Next: 2}, {Next: 3, Pages: []tree.Page{{ID: 1}, {ID: 2, Data: leafData("a")}}}, {Root: 1, Next: 2, Pages: []tree.Page{{ID: 1}}}} {
		y := x
		y.Pages = append([]tree.Page{}, x.Pages...)
		for i := range y.Pages {
			y.Pages[i].Data = append([]byte{}, y.Pages[i].Data...)
		}
		for _, root := range []int{-1, 0, 1, 2, 3} {
			roots := []int{root}
			a, errA := reclaim.Live(x, roots)
			b, errB := reclaim.Live(y, roots)
			if errA != errB || !slices.Equal(a, b) {
				t.Errorf("Live of %s, root %d: nil and empty are not one", show(x), root)
			}
			c, n, errC := reclaim.Sweep(x, roots)
			d, m, errD := reclaim.Sweep(y, roots)
			if errC != errD || n != m || !same(c, d) {
				t.Errorf("Sweep of %s, root %d: nil and empty are not one", show(x), root)
			}
		}
		a, n, errA := reclaim.Sweep(x, nil)
		b, m, errB := reclaim.Sweep(x, []int{})
		if errA != errB || n != m || !same(a, b) {
			t.Errorf("Sweep of %s: no roots and none are not one", show(x))
		}
	}
}

// TestSameAgain: the same arguments, the same answers, from many goroutines at once too.
func TestSameAgain(t *testing.T) {
	x, moments := played(t, dice(116), 60, 40, 20)
	roots := rootsOf(moments[20:36])
	live, _ := reclaim.Live(x, roots)
	left, went, _ := reclaim.Sweep(x, roots)
	var wait sync.WaitGroup
	for range 8 {
		wait.Go(func() {
			for range 30 {
				l, err := reclaim.Live(x, roots)
				y, n, errS := reclaim.Sweep(x, roots)
				if err != api.OK || errS != api.OK || !slices.Equal(l, live) || n != went || !same(y, left) {
					t.Error("another answer beside other goroutines")
					return
				}
			}
		})
	}
	wait.Wait()
}
