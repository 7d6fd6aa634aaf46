package crc_test

import (
	"bytes"
	"math"
	"math/bits"
	"slices"
	"testing"

	"transept/api"
	"transept/crc"
)

// bitwise sums as the chapter says it, bit by bit, with a register that begins as it is told.
func bitwise(register uint32, b []byte) uint32 {
	for _, octet := range b {
		register ^= uint32(octet)
		for i := 0; i < 8; i++ {
			out := register & 1
			register >>= 1
			if out == 1 {
				register ^= 0x82f63b78
			}
		}
	}
	return ^register
}

// text answers n octets without a plain order; another seed makes another text.
func text(n int, seed uint32) []byte {
	b := make([]byte, n)
	state := seed*2654435761 + 12345
	for i := range b {
		state = state*1664525 + 1013904223
		b[i] = byte(state >> 24)
	}
	return b
}

// texts are of many lengths, nil and empty among them.
func texts() [][]byte {
	all := [][]byte{
		nil,
		{},
		[]byte("a"),
		[]byte("123456789"),
		bytes.Repeat([]byte{0}, 32),
		bytes.Repeat([]byte{0xff}, 32),
		bytes.Repeat([]byte{0}, 1000),
		text(4096, 3),
		text(65537, 4),
	}
	for n := 1; n <= 70; n++ {
		all = append(all, text(n, uint32(n)))
	}
	return all
}

// registers are sums to go on from, such as no text of the tests has, too.
func registers() []uint32 {
	all := []uint32{0, 1, 0x80000000, 0x82f63b78, 0xe3069283, 0xdeadbeef, 0x7fffffff, math.MaxUint32}
	for bit := 0; bit < 32; bit++ {
		all = append(all, 1<<bit, ^uint32(1<<bit))
	}
	return all
}

func TestP2_1SumKnown(t *testing.T) {
	up := make([]byte, 32)
	for i := range up {
		up[i] = byte(i)
	}
	down := slices.Clone(up)
	slices.Reverse(down)
	for _, c := range []struct {
		name string
		b    []byte
		want uint32
	}{
		{"nil", nil, 0},
		{"nothing", []byte{}, 0},
		{"123456789", []byte("123456789"), 0xe3069283},
		{"a", []byte("a"), 0xc1d04330},
		{"32 octets of zeros", make([]byte, 32), 0x8a9136aa},
		{"32 octets of ones", bytes.Repeat([]byte{0xff}, 32), 0x62a8ab43},
		{"32 octets going up", up, 0x46dd794e},
		{"32 octets going down", down, 0x113fdb5c},
	} {
		if got := crc.Sum(c.b); got != c.want {
			t.Errorf("Sum of %s: %08x; want %08x", c.name, got, c.want)
		}
	}
}

// TestP2_1SumOneOctet: each octet alone, so that each place of the array is asked for.
func TestP2_1SumOneOctet(t *testing.T) {
	for octet := 0; octet < 256; octet++ {
		b := []byte{byte(octet)}
		if got, want := crc.Sum(b), bitwise(math.MaxUint32, b); got != want {
			t.Errorf("Sum(%02x): %08x; want %08x", octet, got, want)
		}
	}
}

func TestP2_1SumBitByBit(t *testing.T) {
	for _, b := range texts() {
		if got, want := crc.Sum(b), bitwise(math.MaxUint32, b); got != want {
			t.Errorf("Sum of %d octets: %08x; want %08x", len(b), got, want)
		}
	}
}

func TestP2_1ExtendBitByBit(t *testing.T) {
	for _, c := range registers() {
		for _, b := range texts() {
			if len(b) > 4096 {
				continue
			}
			if got, want := crc.Extend(c, b), bitwise(^c, b); got != want {
				t.Errorf("Extend(%08x, %d octets): %08x; want %08x", c, len(b), got, want)
			}
		}
	}
}

// TestP2_1ExtendByNothing: with nothing, be it nil or empty, a sum stays what it was.
func TestP2_1ExtendByNothing(t *testing.T) {
	for _, c := range registers() {
		if got := crc.Extend(c, nil); got != c {
			t.Errorf("Extend(%08x, nil): %08x", c, got)
		}
		if got := crc.Extend(c, []byte{}); got != c {
			t.Errorf("Extend(%08x, empty): %08x", c, got)
		}
	}
}

func TestP2_2JoinRange(t *testing.T) {
	for _, c := range []struct {
		n   int
		err api.Errno
	}{
		{math.MinInt, api.ErrRange},
		{math.MinInt32, api.ErrRange},
		{-2, api.ErrRange},
		{-1, api.ErrRange},
		{0, api.OK},
		{1, api.OK},
		{1<<20 - 1, api.OK},
		{1 << 20, api.OK},
		{1<<20 + 1, api.ErrRange},
		{1 << 21, api.ErrRange},
		{1 << 32, api.ErrRange},
		{math.MaxInt, api.ErrRange},
	} {
		x := []byte("before")
		var y []byte
		if c.err == api.OK {
			y = text(c.n, 9)
		}
		got, err := crc.Join(crc.Sum(x), crc.Sum(y), c.n)
		var want uint32
		if c.err == api.OK {
			want = bitwise(math.MaxUint32, slices.Concat(x, y))
		}
		if got != want || err != c.err {
			t.Errorf("Join with n %d: %08x, %d; want %08x, %d", c.n, got, err, want, c.err)
		}
	}
}

// TestP2_2JoinZeroBesideError: whatever the sums are, nothing stands beside an error.
func TestP2_2JoinZeroBesideError(t *testing.T) {
	for _, c := range registers() {
		for _, n := range []int{-1, 1<<20 + 1} {
			if got, err := crc.Join(c, ^c, n); got != 0 || err != api.ErrRange {
				t.Errorf("Join(%08x, %08x, %d): %08x, %d", c, ^c, n, got, err)
			}
		}
	}
}

// TestP2_2JoinSecond: the second text empty, short and long, each with first texts of many lengths.
func TestP2_2JoinSecond(t *testing.T) {
	seconds := append(texts(), text(1<<20-1, 5), text(1<<20, 6))
	for _, x := range [][]byte{nil, {}, []byte("a"), text(33, 7), text(5000, 8)} {
		for _, y := range seconds {
			got, err := crc.Join(crc.Sum(x), crc.Sum(y), len(y))
			want := crc.Extend(crc.Sum(x), y)
			if got != want || err != api.OK {
				t.Errorf("Join of %d and %d octets: %08x, %d; want %08x", len(x), len(y), got, err, want)
			}
		}
	}
}

// TestP2_2JoinAnySum: each 32 bits are the sum of some text, so that the first may be any.
func TestP2_2JoinAnySum(t *testing.T) {
	for _, a := range registers() {
		for _, n := range []int{0, 1, 2, 3, 4, 5, 7, 8, 15, 16, 31, 32, 33, 255, 256, 4095, 4096} {
			y := text(n, uint32(n))
			got, err := crc.Join(a, crc.Sum(y), n)
			if want := bitwise(^a, y); got != want || err != api.OK {
				t.Errorf("Join(%08x, sum of %d octets): %08x, %d; want %08x", a, n, got, err, want)
			}
		}
	}
}

// TestP2_3AnyTwoPieces: a text cut anywhere has one sum: whole, gone on with, put together.
func TestP2_3AnyTwoPieces(t *testing.T) {
	for _, whole := range [][]byte{nil, []byte("1"), []byte("123456789"), text(64, 1), text(300, 2)} {
		want := crc.Sum(whole)
		for at := 0; at <= len(whole); at++ {
			x, y := whole[:at], whole[at:]
			if got := crc.Extend(crc.Sum(x), y); got != want {
				t.Errorf("%d octets cut at %d: Extend: %08x; want %08x", len(whole), at, got, want)
			}
			if got, err := crc.Join(crc.Sum(x), crc.Sum(y), len(y)); got != want || err != api.OK {
				t.Errorf("%d octets cut at %d: Join: %08x, %d; want %08x", len(whole), at, got, err, want)
			}
		}
	}
}

// TestP2_3ManyPieces: octet by octet, and three pieces put together from either side.
func TestP2_3ManyPieces(t *testing.T) {
	whole := text(200, 11)
	want := crc.Sum(whole)
	var c uint32
	for i := range whole {
		c = crc.Extend(c, whole[i:i+1])
	}
	if c != want {
		t.Errorf("octet by octet: %08x; want %08x", c, want)
	}
	for first := 0; first <= 200; first += 25 {
		for second := first; second <= 200; second += 40 {
			x, y, z := crc.Sum(whole[:first]), crc.Sum(whole[first:second]), crc.Sum(whole[second:])
			xy, _ := crc.Join(x, y, second-first)
			left, _ := crc.Join(xy, z, 200-second)
			yz, _ := crc.Join(y, z, 200-second)
			right, _ := crc.Join(x, yz, 200-first)
			if left != want || right != want {
				t.Errorf("pieces at %d and %d: %08x, %08x; want %08x", first, second, left, right, want)
			}
		}
	}
}

func TestP2_4Linear(t *testing.T) {
	for _, n := range []int{0, 1, 2, 3, 4, 5, 8, 31, 64, 256, 4096} {
		for seed := uint32(0); seed < 20; seed++ {
			x, y, z := text(n, seed), text(n, seed+100), text(n, seed+200)
			all := make([]byte, n)
			for i := range all {
				all[i] = x[i] ^ y[i] ^ z[i]
			}
			if got, want := crc.Sum(all), crc.Sum(x)^crc.Sum(y)^crc.Sum(z); got != want {
				t.Errorf("three texts of %d octets: %08x; want %08x", n, got, want)
			}
		}
	}
}

// turned answers b with bits turned: those of the pattern that are 1, from a bit on, an octet's lowest bit first.
func turned(b []byte, from int, pattern uint32) []byte {
	out := slices.Clone(b)
	for i := 0; i < 32; i++ {
		if pattern>>i&1 == 1 {
			at := from + i
			out[at/8] ^= 1 << (at % 8)
		}
	}
	return out
}

func TestP2_5OneBit(t *testing.T) {
	for _, b := range [][]byte{{0}, []byte("a"), []byte("123456789"), text(64, 12), text(4096, 13)} {
		want := crc.Sum(b)
		for bit := 0; bit < 8*len(b); bit++ {
			if crc.Sum(turned(b, bit, 1)) == want {
				t.Fatalf("%d octets, bit %d turned: the sum is the same", len(b), bit)
			}
		}
	}
}

// TestP2_5BitsInARow: up to 32 bits in a row, from each bit on, across octets and at both ends:
// all of them turned, its ends alone, and patterns between.
func TestP2_5BitsInARow(t *testing.T) {
	for _, b := range [][]byte{[]byte("abcd"), make([]byte, 5), []byte("123456789"), text(40, 14)} {
		want := crc.Sum(b)
		for length := 1; length <= 32; length++ {
			ends := uint32(1) | 1<<(length-1)
			inside := uint32(math.MaxUint32) >> (32 - length)
			patterns := []uint32{inside, ends, ends | 0x55555555&inside, ends | 0x82f63b78&inside, ends | bits.Reverse32(0x82f63b78)&inside}
			for from := 0; from+length <= 8*len(b); from++ {
				for _, pattern := range patterns {
					if crc.Sum(turned(b, from, pattern)) == want {
						t.Fatalf("%d octets, bits of %08x turned from %d on: the sum is the same", len(b), pattern, from)
					}
				}
			}
		}
	}
}

// TestP2_5TwoOctetsEach: every change of 16 bits in a row, in the middle and at both ends.
func TestP2_5TwoOctetsEach(t *testing.T) {
	b := text(9, 15)
	want := crc.Sum(b)
	for _, from := range []int{0, 5, 27, 56} {
		for pattern := uint32(1); pattern < 1<<16; pattern++ {
			if crc.Sum(turned(b, from, pattern)) == want {
				t.Fatalf("bits of %04x turned from %d on: the sum is the same", pattern, from)
			}
		}
	}
}

// TestP2_6Memory: what is handed in stays as it was, behind its end, too, and may be changed behind the call.
func TestP2_6Memory(t *testing.T) {
	for _, n := range []int{0, 1, 9, 300} {
		room := text(n+50, 16)
		was := slices.Clone(room)
		first := crc.Sum(room[:n])
		second := crc.Extend(first, room[:n])
		if !bytes.Equal(room, was) {
			t.Errorf("%d octets that were handed in are changed", n)
		}
		for i := range room {
			room[i] ^= 0xff
		}
		if got := crc.Sum(was[:n]); got != first {
			t.Errorf("Sum of %d octets again: %08x; want %08x", n, got, first)
		}
		if got := crc.Extend(first, was[:n]); got != second {
			t.Errorf("Extend with %d octets again: %08x; want %08x", n, got, second)
		}
	}
}

// TestP2_6Capacity: what stands behind a text's end does not count.
func TestP2_6Capacity(t *testing.T) {
	room := text(100, 17)
	for n := 0; n <= len(room); n++ {
		alone := slices.Clone(room[:n:n])
		if got, want := crc.Sum(room[:n]), crc.Sum(alone); got != want {
			t.Errorf("Sum of %d octets with room behind them: %08x; want %08x", n, got, want)
		}
		if got, want := crc.Extend(5, room[:n]), crc.Extend(5, alone); got != want {
			t.Errorf("Extend with %d octets with room behind them: %08x; want %08x", n, got, want)
		}
	}
}

// TestP2_6SameAgain: many calls at one time do not come between one another.
func TestP2_6SameAgain(t *testing.T) {
	b := text(5000, 18)
	want := bitwise(math.MaxUint32, b)
	answers := make(chan uint32)
	for i := 0; i < 8; i++ {
		go func() {
			joined, _ := crc.Join(crc.Sum(b[:i*100]), crc.Sum(b[i*100:]), len(b)-i*100)
			answers <- joined
		}()
	}
	for i := 0; i < 8; i++ {
		if got := <-answers; got != want {
			t.Errorf("one of many calls: %08x; want %08x", got, want)
		}
	}
}
