package extent_test

import (
	"math"
	"slices"
	"testing"

	"transept/api"
	"transept/extent"
)

const largest = 1 << 20

// ex answers the extent of size sectors from one on.
func ex(from, size int) api.Extent {
	return api.Extent{From: from, Size: size}
}

// of answers a map of size sectors with those extents free.
func of(size int, free ...api.Extent) extent.Map {
	return extent.Map{Size: size, Free: free}
}

func same(m, n extent.Map) bool {
	return m.Size == n.Size && slices.Equal(m.Free, n.Free)
}

func cloned(m extent.Map) extent.Map {
	return extent.Map{Size: m.Size, Free: slices.Clone(m.Free)}
}

func wantMap(t *testing.T, what string, got extent.Map, err api.Errno, want extent.Map) {
	t.Helper()
	if err != api.OK || !same(got, want) {
		t.Errorf("%s: %v, %d; want %v", what, brief(got), err, brief(want))
	}
}

// wantRefused: beside the error nothing else is told.
func wantRefused(t *testing.T, what string, got extent.Map, err api.Errno, want api.Errno) {
	t.Helper()
	if err != want || got.Size != 0 || len(got.Free) != 0 {
		t.Errorf("%s: %v, %d; want %d alone", what, brief(got), err, want)
	}
}

func wantAlloc(t *testing.T, what string, m extent.Map, size int, want extent.Map, given api.Extent) {
	t.Helper()
	next, x, err := extent.Alloc(m, size)
	wantMap(t, what, next, err, want)
	if x != given {
		t.Errorf("%s: gave %v; want %v", what, x, given)
	}
}

func wantNoAlloc(t *testing.T, what string, m extent.Map, size int, want api.Errno) {
	t.Helper()
	next, x, err := extent.Alloc(m, size)
	wantRefused(t, what, next, err, want)
	if x != (api.Extent{}) {
		t.Errorf("%s: gave %v beside %d", what, x, err)
	}
}

func wantRoom(t *testing.T, what string, m extent.Map, all, most int) {
	t.Helper()
	if a, b, err := extent.Room(m); a != all || b != most || err != api.OK {
		t.Errorf("Room of %s: %d, %d, %d; want %d, %d", what, a, b, err, all, most)
	}
}

// brief answers m with no more of its extents than a line can tell.
func brief(m extent.Map) extent.Map {
	m.Free = m.Free[:min(len(m.Free), 12)]
	return m
}

// named is a map and what is told of it.
type named struct {
	what string
	extent.Map
}

// mayBe are maps that Check lets pass.
func mayBe() []named {
	return []named{
		{"no sectors", of(0)},
		{"no sectors, an empty list", extent.Map{Free: []api.Extent{}}},
		{"one sector, free", of(1, ex(0, 1))},
		{"one sector, not free", of(1)},
		{"all free", of(10, ex(0, 10))},
		{"none free", of(10)},
		{"the first free", of(10, ex(0, 1))},
		{"the last free", of(10, ex(9, 1))},
		{"one between two", of(10, ex(0, 4), ex(5, 5))},
		{"several", of(20, ex(1, 2), ex(4, 1), ex(6, 7), ex(15, 5))},
		{"the largest, all free", of(largest, ex(0, largest))},
		{"the largest, none free", of(largest)},
		{"the largest, its ends free", of(largest, ex(0, 1), ex(largest-1, 1))},
		{"the largest, every other one free", striped()},
	}
}

// striped answers the map with the most extents that there may be.
func striped() extent.Map {
	m := of(largest)
	for from := 0; from < largest; from += 2 {
		m.Free = append(m.Free, ex(from, 1))
	}
	return m
}

// mayNotBe are maps that Check refuses.
func mayNotBe() []named {
	return slices.Concat(wrongSizes(), wrongExtents(), wrongOrders())
}

func wrongSizes() []named {
	return []named{
		{"Size -1", of(-1)},
		{"Size -2^20", of(-largest)},
		{"Size below 0, and an extent", of(-1, ex(0, 1))},
		{"Size below 0, and an extent below it", of(-10, ex(-20, 5))},
		{"the least Size", of(math.MinInt)},
		{"the least Size, and an extent", of(math.MinInt, ex(0, 1))},
		{"the least Size, and the greatest extent", of(math.MinInt, ex(1, math.MaxInt))},
		{"Size 2^20+1", of(largest + 1)},
		{"Size 2^20+1, all free", of(largest+1, ex(0, largest+1))},
		{"Size 2^20+1, an extent within 2^20", of(largest+1, ex(0, 1))},
		{"Size 2^32", of(1 << 32)},
		{"the greatest Size", of(math.MaxInt)},
		{"the greatest Size, all free", of(math.MaxInt, ex(0, math.MaxInt))},
	}
}

func wrongExtents() []named {
	return []named{
		{"an extent of 0", of(10, ex(3, 0))},
		{"an extent of 0 in the beginning", of(10, ex(0, 0))},
		{"an extent of 0 behind the end", of(10, ex(10, 0))},
		{"an extent of 0 of no sectors", of(0, ex(0, 0))},
		{"an extent of 0 behind another", of(10, ex(0, 2), ex(5, 0))},
		{"an extent of 0 ahead of another", of(10, ex(2, 0), ex(5, 2))},
		{"an extent of -1", of(10, ex(3, -1))},
		{"an extent of -1 behind another", of(10, ex(0, 2), ex(5, -1))},
		{"an extent of the least Size", of(10, ex(3, math.MinInt))},
		{"an extent of the least Size from 0", of(10, ex(0, math.MinInt))},
		{"an extent from -1", of(10, ex(-1, 1))},
		{"an extent from -1 across 0", of(10, ex(-1, 5))},
		{"an extent from -1, another behind it", of(10, ex(-1, 1), ex(3, 2))},
		{"an extent from -1 behind another", of(10, ex(3, 2), ex(-1, 1))},
		{"an extent from -1 to the end", of(10, ex(-1, 11))},
		{"an extent from the least number", of(10, ex(math.MinInt, 1))},
		{"an extent from the least number, the greatest Size", of(10, ex(math.MinInt, math.MaxInt))},
		{"an extent from the least number, the least Size", of(10, ex(math.MinInt, math.MinInt))},
		{"an extent from -3 of the greatest Size", of(10, ex(-3, math.MaxInt))},
		{"an extent one behind Size", of(10, ex(0, 11))},
		{"an extent that ends one behind Size", of(10, ex(9, 2))},
		{"an extent that begins at Size", of(10, ex(10, 1))},
		{"an extent that begins behind Size", of(10, ex(12, 1))},
		{"a second extent that ends behind Size", of(10, ex(0, 2), ex(5, 6))},
		{"an extent of no sectors", of(0, ex(0, 1))},
		{"the largest, an extent one behind it", of(largest, ex(0, largest+1))},
		{"the largest, an extent at its end", of(largest, ex(largest, 1))},
		{"an extent of the greatest Size", of(10, ex(0, math.MaxInt))},
		{"an extent of the greatest Size from 1, that wraps round", of(10, ex(1, math.MaxInt))},
		{"an extent that wraps round to 0", of(10, ex(5, math.MaxInt-4))},
		{"an extent from the greatest number", of(10, ex(math.MaxInt, 1))},
		{"an extent from the greatest number of its Size", of(10, ex(math.MaxInt, math.MaxInt))},
		{"an extent from just below the greatest number", of(10, ex(math.MaxInt-1, 1))},
	}
}

func wrongOrders() []named {
	return []named{
		{"out of order", of(10, ex(5, 2), ex(0, 2))},
		{"out of order, the last two of three", of(20, ex(0, 2), ex(10, 2), ex(5, 2))},
		{"out of order, the first two of three", of(20, ex(5, 2), ex(0, 2), ex(10, 2))},
		{"out of order, and touching", of(10, ex(5, 2), ex(3, 2))},
		{"two that touch", of(10, ex(0, 3), ex(3, 3))},
		{"two that touch, of one sector each", of(2, ex(0, 1), ex(1, 1))},
		{"two that touch, the last of three", of(20, ex(0, 3), ex(5, 3), ex(8, 3))},
		{"two that touch at the end of the largest", of(largest, ex(0, largest-1), ex(largest-1, 1))},
		{"two that overlap by one", of(10, ex(0, 4), ex(3, 3))},
		{"two that overlap", of(10, ex(0, 4), ex(1, 6))},
		{"one within another", of(10, ex(0, 9), ex(3, 2))},
		{"one twice", of(10, ex(2, 3), ex(2, 3))},
		{"two with one beginning", of(10, ex(2, 3), ex(2, 5))},
		{"two with one end", of(10, ex(2, 5), ex(4, 3))},
	}
}

// TestExample is the chapter's.
func TestExample(t *testing.T) {
	m, err := extent.New(10)
	wantMap(t, "New(10)", m, err, of(10, ex(0, 10)))
	wantAlloc(t, "the first 4", m, 4, of(10, ex(4, 6)), ex(0, 4))
	m, _, _ = extent.Alloc(m, 4)
	wantAlloc(t, "the next 4", m, 4, of(10, ex(8, 2)), ex(4, 4))
	m, _, _ = extent.Alloc(m, 4)
	m, err = extent.Free(m, ex(0, 4))
	wantMap(t, "the first freed", m, err, of(10, ex(0, 4), ex(8, 2)))
	wantNoAlloc(t, "5", m, 5, api.ErrFull)
	wantAlloc(t, "3", m, 3, of(10, ex(3, 1), ex(8, 2)), ex(0, 3))
}

func TestP5_1New(t *testing.T) {
	for _, size := range []int{1, 2, 3, 10, 64, 1024, 1025, 4096, 65537, largest - 1, largest} {
		m, err := extent.New(size)
		wantMap(t, "New", m, err, of(size, ex(0, size)))
	}
	m, err := extent.New(0)
	wantMap(t, "New(0)", m, err, of(0))
	for _, size := range []int{-1, -2, -largest, math.MinInt, largest + 1, largest + 2, 1 << 32, 1<<32 + 1, math.MaxInt} {
		m, err := extent.New(size)
		wantRefused(t, "New", m, err, api.ErrRange)
	}
}

func TestP5_1Check(t *testing.T) {
	for _, m := range mayBe() {
		if err := extent.Check(m.Map); err != api.OK {
			t.Errorf("Check of %s: %d", m.what, err)
		}
	}
	for _, m := range mayNotBe() {
		if err := extent.Check(m.Map); err != api.ErrState {
			t.Errorf("Check of %s: %d; want %d", m.what, err, api.ErrState)
		}
	}
}

// told answers whether a small map may be, sector by sector, as the chapter's words say it.
func told(m extent.Map) bool {
	behind := -1
	for _, x := range m.Free {
		if x.Size <= 0 {
			return false
		}
		for at := range x.Size {
			if x.From+at < 0 || x.From+at >= m.Size {
				return false
			}
		}
		// A sector that is not free lies between: so the extents rise, and none touches another.
		if x.From <= behind {
			return false
		}
		behind = x.From + x.Size
	}
	return true
}

// TestP5_1CheckOfAll small maps of one extent, of two, and of two behind a first.
func TestP5_1CheckOfAll(t *testing.T) {
	var all []api.Extent
	for from := -1; from <= 6; from++ {
		for size := -1; size <= 6; size++ {
			all = append(all, ex(from, size))
		}
	}
	want := func(m extent.Map) {
		if err := extent.Check(m); (err == api.OK) != told(m) || err != api.OK && err != api.ErrState {
			t.Errorf("Check of %v: %d", m, err)
		}
	}
	for size := range 6 {
		for _, x := range all {
			want(of(size, x))
			for _, y := range all {
				want(of(size, x, y))
				want(of(size, ex(0, 1), x, y))
			}
		}
	}
}

// TestP5_1ChecksErrorFirst, whatever else would be refused.
func TestP5_1ChecksErrorFirst(t *testing.T) {
	for _, m := range mayNotBe() {
		for _, size := range []int{1, 2, 0, -1, math.MaxInt, math.MinInt} {
			wantNoAlloc(t, "Alloc of "+m.what, m.Map, size, api.ErrState)
		}
		for _, x := range append(outside(10), ex(0, 1), ex(3, 2), ex(7, 1), ex(0, 10)) {
			next, err := extent.Take(m.Map, x)
			wantRefused(t, "Take of "+m.what, next, err, api.ErrState)
			next, err = extent.Free(m.Map, x)
			wantRefused(t, "Free of "+m.what, next, err, api.ErrState)
		}
		if all, most, err := extent.Room(m.Map); all != 0 || most != 0 || err != api.ErrState {
			t.Errorf("Room of %s: %d, %d, %d; want %d alone", m.what, all, most, err, api.ErrState)
		}
	}
}

func TestP5_1Alloc(t *testing.T) {
	several := of(20, ex(1, 2), ex(4, 1), ex(6, 7), ex(15, 5))
	wantAlloc(t, "of all", of(10, ex(0, 10)), 1, of(10, ex(1, 9)), ex(0, 1))
	wantAlloc(t, "just as many as there are", of(10, ex(0, 10)), 10, of(10), ex(0, 10))
	wantAlloc(t, "one less", of(10, ex(0, 10)), 9, of(10, ex(9, 1)), ex(0, 9))
	wantAlloc(t, "the only one", of(1, ex(0, 1)), 1, of(1), ex(0, 1))
	wantAlloc(t, "1 of several", several, 1, of(20, ex(2, 1), ex(4, 1), ex(6, 7), ex(15, 5)), ex(1, 1))
	wantAlloc(t, "2 of several", several, 2, of(20, ex(4, 1), ex(6, 7), ex(15, 5)), ex(1, 2))
	wantAlloc(t, "the first is too small", several, 3, of(20, ex(1, 2), ex(4, 1), ex(9, 4), ex(15, 5)), ex(6, 3))
	wantAlloc(t, "a later one fits just", several, 5, of(20, ex(1, 2), ex(4, 1), ex(11, 2), ex(15, 5)), ex(6, 5))
	wantAlloc(t, "the largest, whole", several, 7, of(20, ex(1, 2), ex(4, 1), ex(15, 5)), ex(6, 7))
	wantAlloc(t, "the last alone", of(20, ex(1, 2), ex(15, 5)), 5, of(20, ex(1, 2)), ex(15, 5))
	wantAlloc(t, "the lowest of two alike", of(20, ex(3, 4), ex(10, 4)), 4, of(20, ex(10, 4)), ex(3, 4))
	wantAlloc(t, "all of 2^20", of(largest, ex(0, largest)), largest, of(largest), ex(0, largest))
	wantAlloc(t, "2^20 less one", of(largest, ex(0, largest)), largest-1, of(largest, ex(largest-1, 1)), ex(0, largest-1))
	wantAlloc(t, "the last of 2^20", of(largest, ex(largest-1, 1)), 1, of(largest), ex(largest-1, 1))
	for _, m := range mayBe() {
		for _, size := range []int{0, -1, -2, -10, -largest, math.MinInt, math.MinInt + 1} {
			wantNoAlloc(t, "Alloc of "+m.what, m.Map, size, api.ErrRange)
		}
		most := 0
		for _, x := range m.Free {
			most = max(most, x.Size)
		}
		for _, size := range []int{most + 1, most + 2, largest + 1, 1 << 32, 1<<53 + 1, math.MaxInt} {
			wantNoAlloc(t, "Alloc of "+m.what, m.Map, size, api.ErrFull)
		}
	}
	// Fifteen are free, but nowhere eight of them in a row.
	wantNoAlloc(t, "none has so many", several, 8, api.ErrFull)
}

// outside are extents that do not lie in a map of size sectors.
func outside(size int) []api.Extent {
	return []api.Extent{
		{}, ex(0, 0), ex(1, 0), ex(size, 0), ex(0, -1), ex(3, -1), ex(size, -1), ex(size+2, -2), ex(0, math.MinInt), ex(3, math.MinInt),
		ex(-1, 1), ex(-1, 2), ex(-1, size), ex(-1, size+1), ex(-1, size+2), ex(-5, 5), ex(-1, 0), ex(-1, -1),
		ex(-1, math.MaxInt), ex(-1, math.MinInt), ex(math.MinInt, 1), ex(math.MinInt, math.MaxInt), ex(math.MinInt, math.MinInt),
		ex(math.MinInt+1, math.MaxInt), ex(math.MinInt+2, math.MaxInt),
		ex(0, size+1), ex(size, 1), ex(size-1, 2), ex(size+1, 1), ex(1, size), ex(0, largest+1), ex(0, 1<<32), ex(1<<32, 1),
		ex(0, math.MaxInt), ex(1, math.MaxInt), ex(2, math.MaxInt), ex(5, math.MaxInt-4), ex(5, math.MaxInt-5), ex(math.MaxInt, 1),
		ex(math.MaxInt, 2), ex(math.MaxInt, math.MaxInt), ex(math.MaxInt, math.MinInt), ex(math.MaxInt-1, 1),
	}
}

// TestP5_2Outside: ErrRange goes ahead of ErrFree, be the sectors that are there free or not.
func TestP5_2Outside(t *testing.T) {
	for _, m := range mayBe() {
		for _, x := range outside(m.Size) {
			next, err := extent.Take(m.Map, x)
			wantRefused(t, "Take of "+m.what, next, err, api.ErrRange)
			next, err = extent.Free(m.Map, x)
			wantRefused(t, "Free of "+m.what, next, err, api.ErrRange)
		}
	}
}

func TestP5_2Take(t *testing.T) {
	m := of(30, ex(2, 8), ex(12, 6), ex(20, 10))
	for _, c := range []struct {
		what string
		x    api.Extent
		want extent.Map
	}{
		{"the first whole", ex(2, 8), of(30, ex(12, 6), ex(20, 10))},
		{"the middle one whole", ex(12, 6), of(30, ex(2, 8), ex(20, 10))},
		{"the last whole", ex(20, 10), of(30, ex(2, 8), ex(12, 6))},
		{"a beginning", ex(12, 2), of(30, ex(2, 8), ex(14, 4), ex(20, 10))},
		{"a middle", ex(14, 3), of(30, ex(2, 8), ex(12, 2), ex(17, 1), ex(20, 10))},
		{"an end", ex(15, 3), of(30, ex(2, 8), ex(12, 3), ex(20, 10))},
		{"all but its first", ex(13, 5), of(30, ex(2, 8), ex(12, 1), ex(20, 10))},
		{"all but its last", ex(12, 5), of(30, ex(2, 8), ex(17, 1), ex(20, 10))},
		{"one sector", ex(25, 1), of(30, ex(2, 8), ex(12, 6), ex(20, 5), ex(26, 4))},
		{"the very last", ex(29, 1), of(30, ex(2, 8), ex(12, 6), ex(20, 9))},
	} {
		next, err := extent.Take(m, c.x)
		wantMap(t, "Take of "+c.what, next, err, c.want)
	}
	next, err := extent.Take(of(10, ex(0, 10)), ex(0, 10))
	wantMap(t, "Take of all", next, err, of(10))
	next, err = extent.Take(of(largest, ex(0, largest)), ex(largest-1, 1))
	wantMap(t, "Take of the last of 2^20", next, err, of(largest, ex(0, largest-1)))
	for _, x := range []api.Extent{
		ex(0, 1), ex(0, 2), ex(0, 3), ex(1, 2), ex(1, 9), ex(1, 10), ex(2, 9), ex(9, 2), ex(10, 1), ex(10, 2), ex(11, 1), ex(11, 2),
		ex(9, 4), ex(2, 16), ex(11, 7), ex(12, 7), ex(18, 2), ex(19, 11), ex(0, 30), ex(2, 28),
	} {
		next, err := extent.Take(m, x)
		wantRefused(t, "Take of what is not free in part", next, err, api.ErrFree)
	}
	next, err = extent.Take(of(10), ex(0, 1))
	wantRefused(t, "Take where nothing is free", next, err, api.ErrFree)
}

func TestP5_2Free(t *testing.T) {
	m := of(30, ex(2, 4), ex(10, 5), ex(20, 4))
	for _, c := range []struct {
		what string
		x    api.Extent
		want extent.Map
	}{
		{"none, ahead of all", ex(0, 1), of(30, ex(0, 1), ex(2, 4), ex(10, 5), ex(20, 4))},
		{"the one behind, ahead of all", ex(0, 2), of(30, ex(0, 6), ex(10, 5), ex(20, 4))},
		{"the one behind, ahead of all, by its last", ex(1, 1), of(30, ex(1, 5), ex(10, 5), ex(20, 4))},
		{"none, between two", ex(7, 2), of(30, ex(2, 4), ex(7, 2), ex(10, 5), ex(20, 4))},
		{"the one ahead", ex(6, 3), of(30, ex(2, 7), ex(10, 5), ex(20, 4))},
		{"the one behind", ex(7, 3), of(30, ex(2, 4), ex(7, 8), ex(20, 4))},
		{"both, the first two", ex(6, 4), of(30, ex(2, 13), ex(20, 4))},
		{"both, the last two", ex(15, 5), of(30, ex(2, 4), ex(10, 14))},
		{"none, behind all", ex(25, 2), of(30, ex(2, 4), ex(10, 5), ex(20, 4), ex(25, 2))},
		{"none, up to the end", ex(26, 4), of(30, ex(2, 4), ex(10, 5), ex(20, 4), ex(26, 4))},
		{"the one ahead, behind all", ex(24, 1), of(30, ex(2, 4), ex(10, 5), ex(20, 5))},
		{"the one ahead, up to the end", ex(24, 6), of(30, ex(2, 4), ex(10, 5), ex(20, 10))},
	} {
		next, err := extent.Free(m, c.x)
		wantMap(t, "Free that joins "+c.what, next, err, c.want)
	}
	for _, c := range []struct{ m, want extent.Map }{
		{of(10), of(10, ex(0, 10))}, {of(1), of(1, ex(0, 1))}, {of(largest), of(largest, ex(0, largest))},
	} {
		next, err := extent.Free(c.m, ex(0, c.m.Size))
		wantMap(t, "Free of all", next, err, c.want)
	}
	next, err := extent.Free(of(largest, ex(0, largest-1)), ex(largest-1, 1))
	wantMap(t, "Free of the last of 2^20", next, err, of(largest, ex(0, largest)))
	for _, x := range []api.Extent{
		ex(2, 4), ex(2, 1), ex(3, 2), ex(5, 1), ex(0, 3), ex(1, 2), ex(5, 2), ex(5, 5), ex(6, 5), ex(1, 6), ex(9, 2), ex(9, 7),
		ex(14, 1), ex(14, 6), ex(15, 6), ex(6, 14), ex(6, 24), ex(0, 30), ex(23, 7), ex(19, 11), ex(20, 4),
	} {
		next, err := extent.Free(m, x)
		wantRefused(t, "Free of what is free in part", next, err, api.ErrFree)
	}
}

func TestP5_2Room(t *testing.T) {
	for _, m := range mayBe() {
		all, most := 0, 0
		for _, x := range m.Free {
			all += x.Size
			most = max(most, x.Size)
		}
		wantRoom(t, m.what, m.Map, all, most)
	}
	wantRoom(t, "no sectors", of(0), 0, 0)
	wantRoom(t, "none free", of(10), 0, 0)
	wantRoom(t, "all free", of(10, ex(0, 10)), 10, 10)
	wantRoom(t, "one", of(10, ex(3, 4)), 4, 4)
	wantRoom(t, "the first is the largest", of(20, ex(0, 6), ex(8, 2), ex(12, 5)), 13, 6)
	wantRoom(t, "the middle one is the largest", of(20, ex(0, 2), ex(4, 7), ex(12, 5)), 14, 7)
	wantRoom(t, "the last is the largest", of(20, ex(0, 2), ex(4, 1), ex(12, 8)), 11, 8)
	wantRoom(t, "two alike", of(20, ex(0, 3), ex(10, 3)), 6, 3)
	wantRoom(t, "all of 2^20", of(largest, ex(0, largest)), largest, largest)
	wantRoom(t, "every other one of 2^20", striped(), largest/2, 1)
}

// model is a map by another hand: of each sector, whether it is free.
type model []bool

func (l model) state() extent.Map {
	m := of(len(l))
	for at, free := range l {
		if !free {
			continue
		}
		if at > 0 && l[at-1] {
			m.Free[len(m.Free)-1].Size++
		} else {
			m.Free = append(m.Free, ex(at, 1))
		}
	}
	return m
}

// all tells whether each sector of x is free, or each is not.
func (l model) all(x api.Extent, free bool) bool {
	return !slices.Contains(l[x.From:x.From+x.Size], !free)
}

// set answers l with the sectors of x free or not.
func (l model) set(x api.Extent, free bool) model {
	next := slices.Clone(l)
	for at := range x.Size {
		next[x.From+at] = free
	}
	return next
}

// alloc answers where so many are free in a row for the first time.
func (l model) alloc(size int) (api.Extent, bool) {
	for from := range l {
		if x := ex(from, size); l.has(x) && l.all(x, true) {
			return x, true
		}
	}
	return api.Extent{}, false
}

func (l model) has(x api.Extent) bool {
	return x.Size >= 1 && x.From >= 0 && x.From+x.Size <= len(l)
}

// models answers one for each choice of free sectors out of size.
func models(size int) []model {
	var all []model
	for choice := range 1 << size {
		l := make(model, size)
		for at := range l {
			l[at] = choice>>at&1 == 1
		}
		all = append(all, l)
	}
	return all
}

// TestP5_1AllocOfAll and of every size, for each choice of free sectors out of up to nine.
func TestP5_1AllocOfAll(t *testing.T) {
	for size := range 10 {
		for _, l := range models(size) {
			for want := -2; want <= size+2; want++ {
				given, ok := l.alloc(want)
				switch {
				case want < 1:
					wantNoAlloc(t, "Alloc", l.state(), want, api.ErrRange)
				case !ok:
					wantNoAlloc(t, "Alloc", l.state(), want, api.ErrFull)
				default:
					wantAlloc(t, "Alloc", l.state(), want, l.set(given, false).state(), given)
				}
			}
		}
	}
}

// TestP5_2OfAll extents, for each choice of free sectors out of up to eight.
func TestP5_2OfAll(t *testing.T) {
	change := func(what string, do func(extent.Map, api.Extent) (extent.Map, api.Errno), l model, x api.Extent, free bool) {
		next, err := do(l.state(), x)
		switch {
		case !l.has(x):
			wantRefused(t, what, next, err, api.ErrRange)
		case !l.all(x, !free):
			wantRefused(t, what, next, err, api.ErrFree)
		default:
			wantMap(t, what, next, err, l.set(x, free).state())
		}
	}
	for size := range 9 {
		for _, l := range models(size) {
			for from := -2; from <= size+1; from++ {
				for many := -2; many <= size+2; many++ {
					change("Take", extent.Take, l, ex(from, many), false)
					change("Free", extent.Free, l, ex(from, many), true)
				}
			}
		}
	}
}

// TestP5_3FreeBringsBack what Alloc or Take took, and Take what Free freed.
func TestP5_3FreeBringsBack(t *testing.T) {
	for _, m := range mayBe() {
		for _, size := range []int{1, 2, 3, 5, 7, 10, 1000, largest - 1, largest} {
			next, x, err := extent.Alloc(m.Map, size)
			if err == api.ErrFull {
				continue
			}
			back, err := extent.Free(next, x)
			wantMap(t, "Free of what was allocated of "+m.what, back, err, m.Map)
		}
	}
	for size := range 9 {
		for _, l := range models(size) {
			for from := range size {
				for many := 1; from+many <= size; many++ {
					x := ex(from, many)
					if next, err := extent.Take(l.state(), x); err == api.OK {
						back, err := extent.Free(next, x)
						wantMap(t, "Free of what was taken", back, err, l.state())
					}
					if next, err := extent.Free(l.state(), x); err == api.OK {
						back, err := extent.Take(next, x)
						wantMap(t, "Take of what was freed", back, err, l.state())
					}
				}
			}
		}
	}
}

// dice answers a closure that draws numbers below n, without a plain order.
func dice(seed uint32) func(n int) int {
	state := seed*2654435761 + 12345
	return func(n int) int {
		state = state*1664525 + 1013904223
		return int(state>>8) % n
	}
}

// TestP5_3AllBack: whatever was allocated, freed in whatever order, brings the first map back.
func TestP5_3AllBack(t *testing.T) {
	for seed := range uint32(200) {
		draw := dice(seed)
		size := 1 + draw(60)
		begun := make(model, size)
		for at := range begun {
			begun[at] = draw(5) > 0
		}
		m := begun.state()
		var held []api.Extent
		for range 40 {
			if next, x, err := extent.Alloc(m, 1+draw(6)); err == api.OK {
				m, held = next, append(held, x)
			}
		}
		for len(held) > 0 {
			i := draw(len(held))
			next, err := extent.Free(m, held[i])
			if err != api.OK {
				t.Fatalf("script %d: Free of %v: %d", seed, held[i], err)
			}
			m, held = next, slices.Delete(held, i, i+1)
		}
		wantMap(t, "all freed again", m, api.OK, begun.state())
	}
}

// TestP5_4NoSectorTwice, by long scripts of all calls, each map held against the model's.
func TestP5_4NoSectorTwice(t *testing.T) {
	for seed := range uint32(60) {
		draw := dice(1000 + seed)
		size := 1 + draw(80)
		l := make(model, size).set(ex(0, size), true)
		m, _ := extent.New(size)
		for step := range 300 {
			x := ex(draw(size), 1+draw(5))
			var err api.Errno
			next := m
			switch kind := draw(5); {
			case kind < 3:
				if next, x, err = extent.Alloc(m, x.Size); err == api.OK {
					if !l.has(x) || !l.all(x, true) {
						t.Fatalf("script %d, step %d: %v was given, and is not free", seed, step, x)
					}
					l = l.set(x, false)
				}
			case kind == 3:
				if next, err = extent.Take(m, x); err == api.OK {
					if !l.has(x) || !l.all(x, true) {
						t.Fatalf("script %d, step %d: %v was taken, and is not free", seed, step, x)
					}
					l = l.set(x, false)
				}
			default:
				if next, err = extent.Free(m, x); err == api.OK {
					l = l.set(x, true)
				}
			}
			if err == api.OK {
				m = next
			}
			wantMap(t, "a script's step", m, api.OK, l.state())
			if t.Failed() {
				t.Fatalf("script %d, step %d", seed, step)
			}
		}
	}
}

// TestP5_4OneByOne: a map is given away by ones, each sector once, and then it is full.
func TestP5_4OneByOne(t *testing.T) {
	m, _ := extent.New(500)
	for at := range 500 {
		next, x, err := extent.Alloc(m, 1)
		if err != api.OK || x != ex(at, 1) {
			t.Fatalf("Alloc %d: %v, %d", at, x, err)
		}
		m = next
	}
	wantNoAlloc(t, "all given away", m, 1, api.ErrFull)
	wantRoom(t, "all given away", m, 0, 0)
}

// TestP5_5TheNextMapMayBe, whichever call made it.
func TestP5_5TheNextMapMayBe(t *testing.T) {
	want := func(what string, m extent.Map, err api.Errno) {
		if err == api.OK && extent.Check(m) != api.OK {
			t.Errorf("%s: %v may not be", what, brief(m))
		}
	}
	for size := range 8 {
		m, err := extent.New(size)
		want("New", m, err)
		for _, l := range models(size) {
			for from := range size {
				m, _, err := extent.Alloc(l.state(), from+1)
				want("Alloc", m, err)
				for many := 1; many <= size; many++ {
					m, err := extent.Take(l.state(), ex(from, many))
					want("Take", m, err)
					m, err = extent.Free(l.state(), ex(from, many))
					want("Free", m, err)
				}
			}
		}
	}
	for _, m := range mayBe() {
		for _, a := range acts() {
			want(a.what+" of "+m.what, a.do(m.Map), api.OK)
		}
	}
}

// act is one call of a map, with the map that it answers, if it does.
type act struct {
	what string
	do   func(m extent.Map) extent.Map
}

func acts() []act {
	next := func(m extent.Map, _ api.Errno) extent.Map { return m }
	alloc := func(m extent.Map, size int) extent.Map {
		m, _, _ = extent.Alloc(m, size)
		return m
	}
	return []act{
		{"Alloc of 1", func(m extent.Map) extent.Map { return alloc(m, 1) }},
		{"Alloc of 3", func(m extent.Map) extent.Map { return alloc(m, 3) }},
		{"Alloc of 5", func(m extent.Map) extent.Map { return alloc(m, 5) }},
		{"Alloc of 7", func(m extent.Map) extent.Map { return alloc(m, 7) }},
		{"Alloc of all", func(m extent.Map) extent.Map { return alloc(m, m.Size) }},
		{"Alloc of none", func(m extent.Map) extent.Map { return alloc(m, 0) }},
		{"Take of the first", func(m extent.Map) extent.Map { return next(extent.Take(m, ex(0, 1))) }},
		{"Take in the middle", func(m extent.Map) extent.Map { return next(extent.Take(m, ex(8, 2))) }},
		{"Take of a whole one", func(m extent.Map) extent.Map { return next(extent.Take(m, ex(6, 7))) }},
		{"Take of the last", func(m extent.Map) extent.Map { return next(extent.Take(m, ex(m.Size-1, 1))) }},
		{"Free of the first", func(m extent.Map) extent.Map { return next(extent.Free(m, ex(0, 1))) }},
		{"Free that joins two", func(m extent.Map) extent.Map { return next(extent.Free(m, ex(4, 1))) }},
		{"Free in the middle", func(m extent.Map) extent.Map { return next(extent.Free(m, ex(14, 1))) }},
		{"Free of the last", func(m extent.Map) extent.Map { return next(extent.Free(m, ex(m.Size-1, 1))) }},
		{"Free of all", func(m extent.Map) extent.Map { return next(extent.Free(m, ex(0, m.Size))) }},
		{"Room", func(m extent.Map) extent.Map {
			extent.Room(m)
			return extent.Map{}
		}},
		{"Check", func(m extent.Map) extent.Map {
			extent.Check(m)
			return extent.Map{}
		}},
	}
}

// roomy answers m with room behind its list, so that a call that appends to what it was given would be seen,
// and the list with that room.
func roomy(m extent.Map) (extent.Map, []api.Extent) {
	whole := append(slices.Clone(m.Free), ex(70, 7), ex(80, 8), ex(90, 9))
	return extent.Map{Size: m.Size, Free: whole[:len(m.Free)]}, whole
}

// flood overwrites a list and the room that it has.
func flood(l []api.Extent) {
	l = l[:cap(l)]
	for i := range l {
		l[i] = ex(-7, -9)
	}
}

// TestP5_6ArgumentsStay: no call changes what it is given, nor what lies behind it, be it refused or not.
func TestP5_6ArgumentsStay(t *testing.T) {
	for _, m := range append(mayBe(), mayNotBe()...) {
		arg, whole := roomy(m.Map)
		before := slices.Clone(whole)
		for _, a := range acts() {
			a.do(arg)
			if !slices.Equal(whole, before) {
				t.Fatalf("%s of %s changed what it was given", a.what, m.what)
			}
		}
	}
}

// TestP5_6AnswersAreNew: an answer that is overwritten with all its room leaves the argument and another answer
// as they were, and an argument that is overwritten leaves the answers.
func TestP5_6AnswersAreNew(t *testing.T) {
	for _, m := range mayBe() {
		for _, a := range acts() {
			arg, whole := roomy(m.Map)
			before := slices.Clone(whole)
			one, two := a.do(arg), a.do(arg)
			want := cloned(two)
			if !same(one, want) {
				t.Errorf("%s of %s, twice: not the same", a.what, m.what)
			}
			flood(one.Free)
			if !slices.Equal(whole, before) {
				t.Errorf("%s of %s shares memory with what it was given", a.what, m.what)
			}
			if !same(two, want) {
				t.Errorf("%s of %s: two answers share memory", a.what, m.what)
			}
			flood(whole)
			if !same(two, want) {
				t.Errorf("%s of %s hangs on what it was given", a.what, m.what)
			}
		}
	}
	one, _ := extent.New(5)
	two, _ := extent.New(5)
	flood(one.Free)
	wantMap(t, "New, twice", two, api.OK, of(5, ex(0, 5)))
}

// TestNilAndEmpty are one to every call (P1 of DOC.md).
func TestNilAndEmpty(t *testing.T) {
	for _, size := range []int{-1, 0, 1, 20, largest, largest + 1} {
		bare, empty := extent.Map{Size: size}, extent.Map{Size: size, Free: []api.Extent{}}
		for _, a := range acts() {
			if !same(a.do(bare), a.do(empty)) {
				t.Errorf("%s of %d: a list that is nil is not as one that is empty", a.what, size)
			}
		}
		if extent.Check(bare) != extent.Check(empty) {
			t.Errorf("Check of %d: a list that is nil is not as one that is empty", size)
		}
	}
}

// TestSameAgain: many calls at one time do not come between one another (P3 of DOC.md).
func TestSameAgain(t *testing.T) {
	m := of(20, ex(1, 2), ex(4, 1), ex(6, 7), ex(15, 5))
	for _, a := range acts() {
		want := a.do(m)
		good := make(chan bool)
		for range 8 {
			go func() { good <- same(a.do(m), want) }()
		}
		for range 8 {
			if !<-good {
				t.Errorf("%s: one of many answered otherwise", a.what)
			}
		}
	}
}
