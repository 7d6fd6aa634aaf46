package scrub_test

import (
	"math"
	"slices"
	"sync"
	"testing"

	"transept/api"
	"transept/disk"
	"transept/scrub"
	"transept/wal"
)

const topAt = 1 << 20

// pagesAt answers damages of pages at these sectors.
func pagesAt(l ...int) []scrub.Damage {
	var damages []scrub.Damage
	for i, at := range l {
		damages = append(damages, scrub.Damage{Kind: pageKind, Number: 1000 - i, At: at})
	}
	return damages
}

// others are damages that say nothing of sectors, wherever they are.
func others() []scrub.Damage {
	var l []scrub.Damage
	for _, kind := range []int{segKind, 0, 3, -1, 256, 257, 1<<32 + 1, math.MaxInt, math.MinInt, math.MinInt + 1} {
		for _, at := range []int{0, 4, 100, topAt, -1} {
			l = append(l, scrub.Damage{Kind: kind, Number: 1, At: at})
		}
	}
	for _, at := range outside() {
		l = append(l, scrub.Damage{Kind: pageKind, Number: 1, At: at})
	}
	return l
}

// outside are sectors of which none is from 0 to 2^20.
func outside() []int {
	return []int{-1, -2, -3, -4, -5, -topAt, -1 << 32, math.MinInt, math.MinInt + 1, math.MinInt + 4,
		topAt + 1, topAt + 2, topAt + 4, topAt + 5, 1 << 21, 1 << 32, 1<<32 + 4, math.MaxInt - 4, math.MaxInt - 3, math.MaxInt}
}

func wantRanges(t *testing.T, l []scrub.Damage, want ...api.Extent) {
	t.Helper()
	if got := scrub.Ranges(l); !slices.Equal(got, want) {
		t.Errorf("Ranges of %s: %s; want %s", short(l), short(got), short(want))
	}
}

// rangesOf answers by another hand, sector by sector, what Ranges asks for.
func rangesOf(l []scrub.Damage) []api.Extent {
	sectors := map[int]bool{}
	for _, x := range l {
		if x.Kind == 1 && x.At >= 0 && x.At <= 1048576 {
			sectors[x.At], sectors[x.At+1], sectors[x.At+2], sectors[x.At+3] = true, true, true, true
		}
	}
	var ranges []api.Extent
	for sector := range sectors {
		if sectors[sector-1] {
			continue
		}
		n := 1
		for sectors[sector+n] {
			n++
		}
		ranges = append(ranges, api.Extent{From: sector, Size: n})
	}
	slices.SortFunc(ranges, func(x, y api.Extent) int { return x.From - y.From })
	return ranges
}

// orders answers the list in each of its orders.
func orders(l []scrub.Damage) [][]scrub.Damage {
	if len(l) == 0 {
		return [][]scrub.Damage{nil}
	}
	var all [][]scrub.Damage
	for i := range l {
		for _, rest := range orders(slices.Concat(l[:i], l[i+1:])) {
			all = append(all, append([]scrub.Damage{l[i]}, rest...))
		}
	}
	return all
}

// TestP12Example: the chapter's.
func TestP12Example(t *testing.T) {
	wantRanges(t, pagesAt(4, 8), api.Extent{From: 4, Size: 8})
	wantRanges(t, pagesAt(8, 4), api.Extent{From: 4, Size: 8})
}

// TestP12_2ByHand: one page, two of them however near, more of them: in every order, and with others beside them.
func TestP12_2ByHand(t *testing.T) {
	for _, c := range []struct {
		at   []int
		want []api.Extent
	}{
		{nil, nil},
		{[]int{0}, []api.Extent{{From: 0, Size: 4}}},
		{[]int{1}, []api.Extent{{From: 1, Size: 4}}},
		{[]int{7, 7}, []api.Extent{{From: 7, Size: 4}}},
		{[]int{7, 7, 7, 7}, []api.Extent{{From: 7, Size: 4}}},
		{[]int{7, 8}, []api.Extent{{From: 7, Size: 5}}},
		{[]int{7, 9}, []api.Extent{{From: 7, Size: 6}}},
		{[]int{7, 10}, []api.Extent{{From: 7, Size: 7}}},
		{[]int{7, 11}, []api.Extent{{From: 7, Size: 8}}},
		{[]int{7, 12}, []api.Extent{{From: 7, Size: 4}, {From: 12, Size: 4}}},
		{[]int{7, 13}, []api.Extent{{From: 7, Size: 4}, {From: 13, Size: 4}}},
		{[]int{0, 4, 8}, []api.Extent{{From: 0, Size: 12}}},
		{[]int{0, 3, 9}, []api.Extent{{From: 0, Size: 7}, {From: 9, Size: 4}}},
		{[]int{0, 5, 10, 15}, []api.Extent{{From: 0, Size: 4}, {From: 5, Size: 4}, {From: 10, Size: 4}, {From: 15, Size: 4}}},
		{[]int{2, 2, 6, 6, 11}, []api.Extent{{From: 2, Size: 8}, {From: 11, Size: 4}}},
		{[]int{1, 2, 3, 4, 5}, []api.Extent{{From: 1, Size: 8}}},
		{[]int{topAt}, []api.Extent{{From: topAt, Size: 4}}},
		{[]int{topAt, topAt}, []api.Extent{{From: topAt, Size: 4}}},
		{[]int{topAt - 1, topAt}, []api.Extent{{From: topAt - 1, Size: 5}}},
		{[]int{topAt - 4, topAt}, []api.Extent{{From: topAt - 4, Size: 8}}},
		{[]int{topAt - 5, topAt}, []api.Extent{{From: topAt - 5, Size: 4}, {From: topAt, Size: 4}}},
		{[]int{0, topAt}, []api.Extent{{From: 0, Size: 4}, {From: topAt, Size: 4}}},
	} {
		for _, l := range orders(pagesAt(c.at...)) {
			wantRanges(t, l, c.want...)
			wantRanges(t, slices.Concat(others(), l), c.want...)
			wantRanges(t, slices.Concat(l, others()), c.want...)
			var mixed []scrub.Damage
			for i, x := range others() {
				mixed = append(mixed, x)
				if i < len(l) {
					mixed = append(mixed, l[i])
				}
			}
			wantRanges(t, mixed, c.want...)
		}
	}
}

// TestP12_2SayNothing: damages that say nothing, each for itself and beside a page that it would touch.
func TestP12_2SayNothing(t *testing.T) {
	wantRanges(t, nil)
	wantRanges(t, []scrub.Damage{})
	wantRanges(t, others())
	for _, x := range others() {
		wantRanges(t, []scrub.Damage{x})
		wantRanges(t, append(pagesAt(0), x), api.Extent{From: 0, Size: 4})
		wantRanges(t, append([]scrub.Damage{x}, pagesAt(topAt, 0)...), api.Extent{From: 0, Size: 4}, api.Extent{From: topAt, Size: 4})
	}
}

// TestP12_2Number: a page's number says nothing of where it is.
func TestP12_2Number(t *testing.T) {
	for _, n := range oddInts() {
		wantRanges(t, []scrub.Damage{{Kind: pageKind, Number: n, At: 20}, {Kind: pageKind, Number: -n, At: 30}},
			api.Extent{From: 20, Size: 4}, api.Extent{From: 30, Size: 4})
	}
}

// TestP12_2Each: each set of the lowest sectors.
func TestP12_2Each(t *testing.T) {
	for set := range 1 << 13 {
		var l []scrub.Damage
		for i := range 13 {
			if set>>i&1 == 1 {
				l = append(l, scrub.Damage{Kind: pageKind, At: i})
			}
		}
		wantRanges(t, l, rangesOf(l)...)
		slices.Reverse(l)
		wantRanges(t, l, rangesOf(l)...)
	}
}

// TestP12_2Chance: long lists by chance, thick and thin, at both ends of what may be.
func TestP12_2Chance(t *testing.T) {
	roll := dice(122)
	for _, width := range []int{10, 100, 1000, 10000} {
		for range 60 {
			var l []scrub.Damage
			from := []int{-20, 5000, topAt - width}[roll(3)]
			for range roll(300) {
				l = append(l, scrub.Damage{Kind: []int{pageKind, pageKind, pageKind, segKind, 0}[roll(5)], Number: roll(9), At: from + roll(width+20)})
			}
			wantRanges(t, l, rangesOf(l)...)
		}
	}
}

// TestP12_2Great: more damages than one call of Pages may tell.
func TestP12_2Great(t *testing.T) {
	var l []scrub.Damage
	for at := topAt; at >= 0; at -= 4 {
		l = append(l, scrub.Damage{Kind: pageKind, At: at})
	}
	wantRanges(t, l, api.Extent{From: 0, Size: topAt + 4})
	wantRanges(t, slices.Concat(l, l), api.Extent{From: 0, Size: topAt + 4})
	var apart []scrub.Damage
	for at := 0; at < topAt; at += 5 {
		apart = append(apart, scrub.Damage{Kind: pageKind, At: at})
	}
	if got := scrub.Ranges(apart); len(got) != len(apart) || got[len(got)-1] != (api.Extent{From: topAt / 5 * 5, Size: 4}) {
		t.Errorf("Ranges of %d pages apart by one sector: %d, %s", len(apart), len(got), short(got))
	}
}

// TestP12_2Verdict: any damage at all, whatever it says of sectors.
func TestP12_2Verdict(t *testing.T) {
	for _, none := range [][]scrub.Damage{nil, {}} {
		if scrub.Verdict(none) {
			t.Error("Verdict of no damage: true")
		}
	}
	for _, x := range slices.Concat(others(), pagesAt(0, 4, topAt), []scrub.Damage{{}}) {
		for _, n := range []int{1, 2, 5000} {
			if !scrub.Verdict(slices.Repeat([]scrub.Damage{x}, n)) {
				t.Errorf("Verdict of %d, %d times: false", x, n)
			}
		}
	}
	if !scrub.Verdict(others()) {
		t.Error("Verdict of damages that have no range: false")
	}
}

// TestP12_2Follows: Ranges and Verdict of what Pages and Segs tell.
func TestP12_2Follows(t *testing.T) {
	told, _ := scrub.Pages(shelf(), whole())
	wantFollows(t, "whole pages", told, false)
	told, _ = scrub.Pages(shelf(), []scrub.Place{{At: 28, ID: 14}, {At: 0, ID: 7}, {At: 9, ID: 1}, {At: 32, ID: 7}, {At: -4, ID: 1}})
	wantFollows(t, "pages that are not read", told, true, api.Extent{From: 9, Size: 4}, api.Extent{From: 28, Size: 8})
	told, _ = scrub.Pages(shelf(), []scrub.Place{{At: -1, ID: 7}})
	wantFollows(t, "a place that is none", told, true)
	told, _ = scrub.Pages(disk.State{}, whole())
	wantFollows(t, "a disk that may not be", told, false)
	wantFollows(t, "whole segments", scrub.Segs(segsOf(records("a"), nil)), false)
	wantFollows(t, "a torn segment", scrub.Segs(segsOf(records("a"), append(records("b"), 0))), true)
}

func wantFollows(t *testing.T, what string, told []scrub.Damage, verdict bool, ranges ...api.Extent) {
	t.Helper()
	wantRanges(t, told, ranges...)
	if got := scrub.Verdict(told); got != verdict {
		t.Errorf("Verdict of %s: %t", what, got)
	}
}

// TestSameAgain: the same arguments, the same answers, from many goroutines at once too.
func TestSameAgain(t *testing.T) {
	d, places := shelf(), append(whole(), scrub.Place{At: 8, ID: 1}, scrub.Place{At: 16, ID: 10})
	segs := []wal.Seg{{Data: records("a", "b")}, {Data: records("a", "b")[:12]}, {Data: frame(2, "k")}}
	told, _ := scrub.Pages(d, places)
	torn := scrub.Segs(segs)
	all := slices.Concat(told, torn, pagesAt(90, 70, 80))
	ranges := scrub.Ranges(all)
	var wait sync.WaitGroup
	for range 8 {
		wait.Go(func() {
			for range 50 {
				p, err := scrub.Pages(d, places)
				if err != api.OK || !slices.Equal(p, told) || !slices.Equal(scrub.Segs(segs), torn) ||
					!slices.Equal(scrub.Ranges(all), ranges) || !scrub.Verdict(all) {
					t.Error("another answer beside other goroutines")
					return
				}
			}
		})
	}
	wait.Wait()
}
