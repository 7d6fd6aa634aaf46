package scrub_test

import (
	"bytes"
	"encoding/binary"
	"fmt"
	"hash/crc32"
	"math"
	"slices"
	"strings"
	"testing"

	"transept/api"
	"transept/disk"
	"transept/pages"
	"transept/scrub"
)

const (
	pageKind   = 1
	segKind    = 2
	mostPlaces = 4096 // MaxRecords
	largestID  = 1<<31 - 1
)

// sum is CRC-32C by another hand than the program's.
func sum(b []byte) uint32 {
	return crc32.Checksum(b, crc32.MakeTable(crc32.Castagnoli))
}

// sealed answers 252 octets with their checksum behind them.
func sealed(b []byte) []byte {
	return binary.BigEndian.AppendUint32(slices.Clone(b), sum(b))
}

// laid answers the octets of a page by another hand than the program's: the number need not be one that may be.
func laid(id uint32, data string) []byte {
	b := binary.BigEndian.AppendUint16([]byte("pg"), uint16(len(data)))
	b = append(binary.BigEndian.AppendUint32(b, id), data...)
	return sealed(append(b, make([]byte, 252-len(b))...))
}

// with answers b with an octet set, and the checksum that fits.
func with(b []byte, at int, to byte) []byte {
	b = slices.Clone(b[:252])
	b[at] = to
	return sealed(b)
}

func zeros(n int) disk.State {
	d := disk.State{Sectors: make([][]byte, n)}
	for i := range d.Sectors {
		d.Sectors[i] = make([]byte, 64)
	}
	return d
}

// on answers d with a page's octets in its four sectors.
func on(d disk.State, at int, b []byte) disk.State {
	d.Sectors = slices.Clone(d.Sectors)
	for i := range 4 {
		d.Sectors[at+i] = slices.Clone(b[64*i : 64*i+64])
	}
	return d
}

// over answers d with a page's octets in its cache alone.
func over(d disk.State, at int, b []byte) disk.State {
	d.Cache = slices.Clone(d.Cache)
	for i := range 4 {
		d.Cache = append(d.Cache, disk.Write{Sector: at + i, Data: slices.Clone(b[64*i : 64*i+64])})
	}
	return d
}

// rotten answers d with one bit of a sector turned on the disk itself.
func rotten(d disk.State, sector, bit int) disk.State {
	d.Sectors = slices.Clone(d.Sectors)
	d.Sectors[sector] = slices.Clone(d.Sectors[sector])
	d.Sectors[sector][bit/8] ^= 1 << (bit % 8)
	return d
}

// seen answers what a reader sees of a sector, by another hand.
func seen(d disk.State, sector int) []byte {
	b := d.Sectors[sector]
	for _, w := range d.Cache {
		if w.Sector == sector {
			b = w.Data
		}
	}
	return b
}

// reads tells by another hand whether the page of that number is read at that place.
func reads(d disk.State, p scrub.Place) bool {
	if p.At < 0 || p.At >= len(d.Sectors) || len(d.Sectors)-p.At < 4 || p.ID < 0 || p.ID > largestID {
		return false
	}
	var b []byte
	for i := range 4 {
		b = append(b, seen(d, p.At+i)...)
	}
	n := int(binary.BigEndian.Uint16(b[2:]))
	return n <= 244 && bytes.Equal(b, laid(uint32(p.ID), string(b[8:8+n])))
}

// damagesOf answers a damage of a page for each of these places.
func damagesOf(l []scrub.Place) []scrub.Damage {
	var told []scrub.Damage
	for _, p := range l {
		told = append(told, scrub.Damage{Kind: pageKind, Number: p.ID, At: p.At})
	}
	return told
}

// short answers what a test tells of a list.
func short(l any) string {
	s := fmt.Sprint(l)
	return s[:min(len(s), 200)]
}

// wantTold: Pages tells just these places.
func wantTold(t *testing.T, what string, d disk.State, l []scrub.Place, want ...scrub.Place) {
	t.Helper()
	if told, err := scrub.Pages(d, l); err != api.OK || !slices.Equal(told, damagesOf(want)) {
		t.Errorf("Pages of %s at %s: %s, %d; want %s", what, short(l), short(told), err, short(damagesOf(want)))
	}
}

// wantUnread: Pages tells the places that are not read by another hand, and these are what pages.Read does not read.
// It answers how many there are.
func wantUnread(t *testing.T, what string, d disk.State, l []scrub.Place) int {
	t.Helper()
	var want []scrub.Place
	for _, p := range l {
		_, err := pages.Read(d, p.At, p.ID)
		if (err == api.OK) != reads(d, p) {
			t.Fatalf("%s: Read of %d: %d; by another hand: %t", what, p, err, reads(d, p))
		}
		if err != api.OK {
			want = append(want, p)
		}
	}
	wantTold(t, what, d, l, want...)
	return len(want)
}

// wantRefused: beside the error nothing else is told.
func wantRefused(t *testing.T, what string, d disk.State, l []scrub.Place, want api.Errno) {
	t.Helper()
	if told, err := scrub.Pages(d, l); err != want || len(told) != 0 {
		t.Errorf("Pages of %s, %d places: %s, %d; want %d alone", what, len(l), short(told), err, want)
	}
}

// shelf is a disk of 48 sectors with a page, or something else, at every fourth one.
func shelf() disk.State {
	d := zeros(48)
	d = on(d, 0, laid(7, "seven"))
	d = on(d, 4, laid(8, strings.Repeat("8", 244)))
	// From 8 on nothing was ever written.
	d = over(on(d, 12, laid(9, "old")), 12, laid(9, "new"))
	d = over(on(d, 16, laid(10, "old")), 16, laid(11, "another"))
	d = over(d, 20, laid(12, "in the cache alone"))
	d = over(rotten(on(d, 24, laid(13, "rotten")), 25, 100), 24, laid(13, "whole"))
	d = on(d, 28, laid(14, "one sector written over"))
	d.Cache = append(d.Cache, disk.Write{Sector: 31, Data: make([]byte, 64)})
	d = on(d, 32, laid(0, ""))
	d = on(d, 36, with(laid(15, ""), 200, 1))
	d = on(d, 40, laid(1<<31, "a number that may not be"))
	return on(d, 44, laid(largestID, "last"))
}

// whole are the pages of the shelf that are read.
func whole() []scrub.Place {
	return []scrub.Place{{At: 0, ID: 7}, {At: 4, ID: 8}, {At: 12, ID: 9}, {At: 16, ID: 11}, {At: 20, ID: 12}, {At: 24, ID: 13}, {At: 32, ID: 0}, {At: 44, ID: largestID}}
}

// TestP12_1ByHand: places of the shelf, each for itself: which ones are told.
func TestP12_1ByHand(t *testing.T) {
	d := shelf()
	for _, p := range whole() {
		wantTold(t, "a whole page", d, []scrub.Place{p})
	}
	for _, c := range []struct {
		what string
		p    scrub.Place
	}{
		{"never written", scrub.Place{At: 8, ID: 0}},
		{"never written", scrub.Place{At: 8, ID: 1}},
		{"the elder page", scrub.Place{At: 16, ID: 10}},
		{"one sector written over", scrub.Place{At: 28, ID: 14}},
		{"an octet behind the data", scrub.Place{At: 36, ID: 15}},
		{"a number above the largest", scrub.Place{At: 40, ID: 1 << 31}},
		{"a number above the largest", scrub.Place{At: 40, ID: -1 << 31}},
		{"a number above the largest", scrub.Place{At: 40, ID: 0}},
		{"not where it begins", scrub.Place{At: 1, ID: 7}},
		{"not where it begins", scrub.Place{At: 3, ID: 8}},
		{"the last sectors", scrub.Place{At: 45, ID: largestID}},
		{"the last sectors", scrub.Place{At: 46, ID: largestID}},
		{"the last sectors", scrub.Place{At: 47, ID: largestID}},
		{"behind the last sector", scrub.Place{At: 48, ID: largestID}},
	} {
		wantTold(t, c.what, d, []scrub.Place{c.p}, c.p)
	}
	for _, p := range whole() {
		for _, id := range []int{p.ID + 1, p.ID - 1, p.ID + 256, p.ID + 1<<32, p.ID - 1<<32, -p.ID - 1, ^p.ID} {
			other := scrub.Place{At: p.At, ID: id}
			wantTold(t, "another number", d, []scrub.Place{other}, other)
		}
	}
}

// TestP12_1Order: places are told in the order in which they come, as often as they come.
func TestP12_1Order(t *testing.T) {
	d := shelf()
	none, elder, torn := scrub.Place{At: 8, ID: 3}, scrub.Place{At: 16, ID: 10}, scrub.Place{At: 28, ID: 14}
	wantTold(t, "no place", d, nil)
	wantTold(t, "no place", d, []scrub.Place{})
	wantTold(t, "whole pages", d, whole())
	wantTold(t, "falling", d, []scrub.Place{torn, elder, none}, torn, elder, none)
	wantTold(t, "out of order", d, []scrub.Place{elder, torn, none}, elder, torn, none)
	wantTold(t, "the same twice", d, []scrub.Place{none, none}, none, none)
	wantTold(t, "the same twice, apart", d, []scrub.Place{none, torn, none}, none, torn, none)
	all := slices.Concat(whole(), []scrub.Place{torn}, whole(), []scrub.Place{none, torn}, whole())
	wantTold(t, "among whole pages", d, all, torn, none, torn)
	slices.Reverse(all)
	wantTold(t, "among whole pages, falling", d, all, torn, none, torn)
	read, other := scrub.Place{At: 0, ID: 7}, scrub.Place{At: 0, ID: 8}
	wantTold(t, "one place by two numbers", d, []scrub.Place{other, read, other, read}, other, other)
}

// oddInts are numbers about 0, about what a disk has, and at the ends of what there is.
func oddInts() []int {
	return []int{math.MinInt, math.MinInt + 1, math.MinInt + 3, math.MinInt + 4, -1 << 32, -1 << 31, -64, -4, -3, -2, -1, 0, 1, 2, 3, 4, 44, 45, 48, 63,
		1020, 1021, 1024, 1 << 20, 1 << 31, 1 << 32, 1<<32 + 7, math.MaxInt - 4, math.MaxInt - 3, math.MaxInt - 1, math.MaxInt}
}

// TestP12_1Numbers: numbers of any size are told as they are, and no disk has a page there.
func TestP12_1Numbers(t *testing.T) {
	var all []scrub.Place
	for _, at := range oddInts() {
		for _, id := range append(oddInts(), 7, largestID) {
			all = append(all, scrub.Place{At: at, ID: id})
			if reads(shelf(), all[len(all)-1]) {
				continue
			}
			wantTold(t, "odd numbers", shelf(), all[len(all)-1:], all[len(all)-1])
		}
	}
	if n := wantUnread(t, "odd numbers", shelf(), all); n < len(all)-8 {
		t.Errorf("of %d odd places %d are told", len(all), n)
	}
}

// TestP12_1Sizes: disks of each size, with a page wherever there is room for one, and places about it.
func TestP12_1Sizes(t *testing.T) {
	for _, n := range []int{1, 2, 3, 4, 5, 7, 8, 64, 1023, 1024} {
		for _, at := range []int{0, 1, n/2 - 1, n - 5, n - 4, n - 3, n - 1} {
			d := zeros(n)
			if at >= 0 && at <= n-4 {
				d = on(d, at, laid(5, "five"))
			}
			var l []scrub.Place
			for i := -5; i <= 5; i++ {
				l = append(l, scrub.Place{At: at + i, ID: 5}, scrub.Place{At: n + i, ID: 5})
			}
			wantUnread(t, fmt.Sprintf("%d sectors", n), d, l)
		}
	}
}

// TestP12_1Count: 4096 places and no more, whether they are told or not.
func TestP12_1Count(t *testing.T) {
	good, bad, off := scrub.Place{At: 0, ID: 7}, scrub.Place{At: 8, ID: 1}, scrub.Place{At: -1, ID: -1}
	for _, n := range []int{1, 2, mostPlaces - 1, mostPlaces} {
		wantTold(t, "as many as may be", shelf(), slices.Repeat([]scrub.Place{good}, n))
		for _, p := range []scrub.Place{bad, off} {
			all := slices.Repeat([]scrub.Place{p}, n)
			wantTold(t, "as many as may be", shelf(), all, all...)
			wantTold(t, "the last one", shelf(), append(slices.Repeat([]scrub.Place{good}, n-1), p), p)
		}
	}
	for _, n := range []int{mostPlaces + 1, mostPlaces + 2, 2 * mostPlaces, 1 << 16, 1<<16 + 1} {
		for _, p := range []scrub.Place{good, bad, off} {
			wantRefused(t, "the shelf", shelf(), slices.Repeat([]scrub.Place{p}, n), api.ErrCount)
		}
		wantRefused(t, "the shelf", shelf(), append(slices.Repeat([]scrub.Place{good}, n-1), bad), api.ErrCount)
		wantRefused(t, "one sector", zeros(1), slices.Repeat([]scrub.Place{good}, n), api.ErrCount)
	}
}

// mayNotBe are disks with one thing wrong.
func mayNotBe() map[string]disk.State {
	l := map[string]disk.State{
		"nothing":      {},
		"no sectors":   {Sectors: [][]byte{}},
		"a cache":      {Cache: []disk.Write{{Sector: 0, Data: make([]byte, 64)}}},
		"1025 sectors": zeros(1025),
	}
	for _, n := range []int{0, 63, 65, 256} {
		first, last, write := shelf(), shelf(), shelf()
		first.Sectors[0] = make([]byte, n)
		last.Sectors[47] = make([]byte, n)
		write.Cache[3].Data = make([]byte, n)
		l[fmt.Sprintf("a first sector of %d octets", n)] = first
		l[fmt.Sprintf("a last sector of %d octets", n)] = last
		l[fmt.Sprintf("a write of %d octets", n)] = write
	}
	for _, n := range []int{math.MinInt, -1, 48, 1024, math.MaxInt} {
		d := shelf()
		d.Cache[len(d.Cache)-1].Sector = n
		l[fmt.Sprintf("a write of sector %d", n)] = d
	}
	d := shelf()
	d.Cache = slices.Repeat(d.Cache[:1], mostPlaces+1)
	l["4097 writes"] = d
	return l
}

// TestP12_1CheckFirst: a disk that may not be is told ahead of all else, and where there is no place, too.
func TestP12_1CheckFirst(t *testing.T) {
	for what, d := range mayNotBe() {
		for _, n := range []int{0, 1, mostPlaces, mostPlaces + 1, 1 << 16} {
			wantRefused(t, what, d, make([]scrub.Place, n), api.ErrState)
			wantRefused(t, what, d, slices.Repeat([]scrub.Place{{At: 4, ID: 8}}, n), api.ErrState)
		}
		wantRefused(t, what, d, whole(), api.ErrState)
		wantRefused(t, what, d, []scrub.Place{{At: -1, ID: -1}, {At: math.MaxInt}}, api.ErrState)
		wantRefused(t, what, d, nil, api.ErrState)
	}
}

// TestP12_1FullCache: a cache as full as may be: the last write of a sector counts.
func TestP12_1FullCache(t *testing.T) {
	d := on(zeros(8), 0, laid(1, "first"))
	for i := range mostPlaces / 4 {
		d = over(d, 4*(i%2), laid(uint32(i), "again"))
	}
	wantTold(t, "a full cache", d, []scrub.Place{{At: 0, ID: mostPlaces/4 - 2}, {At: 4, ID: mostPlaces/4 - 1}})
	elder := []scrub.Place{{At: 0, ID: 1}, {At: 0, ID: 0}, {At: 4, ID: 1}, {At: 4, ID: mostPlaces/4 - 3}}
	wantTold(t, "a full cache", d, elder, elder...)
}

// TestP12_4OneBit: each bit of each page, turned on the disk, is told, and nothing else.
func TestP12_4OneBit(t *testing.T) {
	d := on(on(on(zeros(14), 1, laid(7, "seven")), 5, laid(8, strings.Repeat("8", 244))), 10, laid(0, ""))
	l := []scrub.Place{{At: 1, ID: 7}, {At: 5, ID: 8}, {At: 10, ID: 0}}
	wantTold(t, "no rot", d, l)
	for _, p := range l {
		for bit := range 256 * 8 {
			sector := p.At + bit/512
			wantTold(t, "one bit rotten", rotten(d, sector, bit%512), l, p)
			by, err := disk.Rot(d, sector, bit%512/8, 1<<(bit%8))
			if err != api.OK {
				t.Fatal("Rot:", err)
			}
			wantTold(t, "one bit rotten by Rot", by, l, p)
		}
	}
	for _, sector := range []int{0, 9} {
		for bit := range 512 {
			wantTold(t, "rot beside the pages", rotten(d, sector, bit), l)
		}
	}
	wantTold(t, "rot that was turned back", rotten(rotten(d, 6, 77), 6, 77), l)
	wantTold(t, "rot of two pages", rotten(rotten(d, 13, 0), 2, 511), l, l[0], l[2])
}

// TestP12_3Torn: whatever a crash keeps or tears of a page over another one, Pages tells what Read does not read.
func TestP12_3Torn(t *testing.T) {
	d := on(zeros(6), 1, laid(7, strings.Repeat("old", 80)))
	d = over(d, 1, laid(8, strings.Repeat("new one", 34)))
	l := []scrub.Place{{At: 1, ID: 7}, {At: 1, ID: 8}, {At: 2, ID: 7}}
	told := map[int]int{}
	for mask := range 16 {
		for torn := -1; torn < 4; torn++ {
			for _, cut := range []int{0, 1, 8, 63, 64} {
				keep := []bool{mask&1 > 0, mask&2 > 0, mask&4 > 0, mask&8 > 0}
				after, err := disk.Crash(d, keep, torn, cut)
				if err != api.OK {
					t.Fatal("Crash:", err)
				}
				told[wantUnread(t, "a crash", after, l)]++
			}
		}
	}
	if told[2] == 0 || told[3] == 0 || len(told) != 2 {
		t.Errorf("of three places so many were told, so often: %d", told)
	}
}

// dice answers numbers below n, the same ones for the same seed.
func dice(seed uint64) func(n int) int {
	return func(n int) int {
		seed = seed*6364136223846793005 + 1442695040888963407
		return int(seed>>33) % n
	}
}

// played answers d with one thing done by chance: a page written, a flush, a crash, rot, or a sector written over.
func played(t *testing.T, roll func(n int) int, d disk.State) disk.State {
	t.Helper()
	var err api.Errno
	switch kind := roll(10); {
	case kind < 5:
		d, err = pages.Write(d, roll(len(d.Sectors)-3), roll(4), bytes.Repeat([]byte{byte(kind)}, roll(245)))
	case kind < 7:
		d, err = disk.Flush(d)
	case kind < 8:
		keep := make([]bool, len(d.Cache))
		for i := range keep {
			keep[i] = roll(4) > 0
		}
		d, err = disk.Crash(d, keep, roll(len(keep)+1), roll(65))
	case kind < 9:
		d, err = disk.Rot(d, roll(len(d.Sectors)), roll(64), 1<<roll(8))
	default:
		d, err = disk.Put(d, roll(len(d.Sectors)), []byte("over"))
	}
	if err != api.OK {
		t.Fatalf("the test's own fault: %d", err)
	}
	return d
}

// TestP12_3Chance: a page is told just if Read does not read it, on disks by chance, wherever and by whatever number.
func TestP12_3Chance(t *testing.T) {
	roll := dice(123)
	told, all := 0, 0
	for range 60 {
		d := zeros(4 + roll(12))
		for range 25 {
			d = played(t, roll, d)
			var l []scrub.Place
			for at := -1; at <= len(d.Sectors); at++ {
				for id := -1; id < 5; id++ {
					l = append(l, scrub.Place{At: at, ID: id})
				}
			}
			for i := range l {
				j := roll(len(l))
				l[i], l[j] = l[j], l[i]
			}
			told += wantUnread(t, "a disk by chance", d, l)
			all += len(l)
		}
	}
	if all-told < 1000 {
		t.Errorf("of %d places by chance %d are read", all, all-told)
	}
}
