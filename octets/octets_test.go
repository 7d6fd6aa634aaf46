package octets_test

import (
	"bytes"
	"math"
	"math/bits"
	"slices"
	"testing"

	"transept/api"
	"transept/octets"
)

// samples are lists of octets from none on, nil and empty among them.
func samples() [][]byte {
	return [][]byte{
		nil,
		{},
		{0},
		{1},
		{0x80},
		{0xff},
		{0x01, 0x80},
		{0x0f, 0xf0},
		{0xde, 0xad, 0xbe},
		{1, 2, 3, 4, 5, 6, 7, 8},
		{1, 2, 3, 4, 5, 6, 7, 8, 9},
		bytes.Repeat([]byte{0xa5, 0x00, 0x3c}, 1000),
	}
}

func TestP1_1Put(t *testing.T) {
	for _, c := range []struct {
		n    uint64
		size int
		want string
		err  api.Errno
	}{
		{258, 3, "\x00\x01\x02", api.OK},
		{0, 1, "\x00", api.OK},
		{0, 8, "\x00\x00\x00\x00\x00\x00\x00\x00", api.OK},
		{255, 1, "\xff", api.OK},
		{256, 1, "", api.ErrRange},
		{256, 2, "\x01\x00", api.OK},
		{0x0102030405060708, 8, "\x01\x02\x03\x04\x05\x06\x07\x08", api.OK},
		{0x0102030405060708, 7, "", api.ErrRange},
		{math.MaxUint64, 8, "\xff\xff\xff\xff\xff\xff\xff\xff", api.OK},
		{math.MaxUint64, 7, "", api.ErrRange},
		{0, 0, "", api.ErrRange},
		{0, -1, "", api.ErrRange},
		{0, 9, "", api.ErrRange},
		{1, 9, "", api.ErrRange},
		{1, math.MinInt, "", api.ErrRange},
		{1, math.MaxInt, "", api.ErrRange},
	} {
		b, err := octets.Put(c.n, c.size)
		if string(b) != c.want || err != c.err {
			t.Errorf("Put(%d, %d): % x, %d; want % x, %d", c.n, c.size, b, err, c.want, c.err)
		}
	}
}

// TestP1_1PutFits: of each size the greatest number fits, and the next one does not.
func TestP1_1PutFits(t *testing.T) {
	for size := 1; size <= 8; size++ {
		greatest := uint64(math.MaxUint64) >> (64 - 8*size)
		b, err := octets.Put(greatest, size)
		if !bytes.Equal(b, bytes.Repeat([]byte{0xff}, size)) || err != api.OK {
			t.Errorf("Put(%d, %d): % x, %d", greatest, size, b, err)
		}
		if size == 8 {
			continue
		}
		if b, err := octets.Put(greatest+1, size); len(b) != 0 || err != api.ErrRange {
			t.Errorf("Put(%d, %d): % x, %d", greatest+1, size, b, err)
		}
	}
}

func TestP1_1Get(t *testing.T) {
	for _, c := range []struct {
		b    []byte
		want uint64
		err  api.Errno
	}{
		{nil, 0, api.ErrCount},
		{[]byte{}, 0, api.ErrCount},
		{[]byte{0}, 0, api.OK},
		{[]byte{0xff}, 255, api.OK},
		{[]byte{0, 1, 2}, 258, api.OK},
		{[]byte{1, 2, 3, 4, 5, 6, 7, 8}, 0x0102030405060708, api.OK},
		{bytes.Repeat([]byte{0xff}, 8), math.MaxUint64, api.OK},
		{[]byte{0, 0, 0, 0, 0, 0, 0, 0, 1}, 0, api.ErrCount},
		{bytes.Repeat([]byte{0xff}, 9), 0, api.ErrCount},
		{make([]byte, 1<<16), 0, api.ErrCount},
	} {
		if n, err := octets.Get(c.b); n != c.want || err != c.err {
			t.Errorf("Get of %d octets: %d, %d; want %d, %d", len(c.b), n, err, c.want, c.err)
		}
	}
}

func TestP1_1Decimal(t *testing.T) {
	least, greatest := "-9223372036854775808", "9223372036854775807"
	if bits.UintSize == 32 {
		least, greatest = "-2147483648", "2147483647"
	}
	for _, c := range []struct {
		n    int
		want string
	}{
		{0, "0"},
		{7, "7"},
		{10, "10"},
		{100, "100"},
		{1234567890, "1234567890"},
		{-1, "-1"},
		{-10, "-10"},
		{-70, "-70"},
		{math.MinInt, least},
		{math.MaxInt, greatest},
	} {
		if got := octets.Decimal(c.n); got != c.want {
			t.Errorf("Decimal(%d): %q; want %q", c.n, got, c.want)
		}
	}
}

func TestP1_2Turn(t *testing.T) {
	for _, c := range []struct{ b, want []byte }{
		{nil, nil},
		{[]byte{}, nil},
		{[]byte{0}, []byte{0}},
		{[]byte{0x01}, []byte{0x80}},
		{[]byte{0x12}, []byte{0x48}},
		{[]byte{0x01, 0x80}, []byte{0x01, 0x80}},
		{[]byte{0x03, 0x80}, []byte{0x01, 0xc0}},
		{[]byte{0x01, 0x02, 0xfe}, []byte{0x7f, 0x40, 0x80}},
	} {
		if got := octets.Turn(c.b); !bytes.Equal(got, c.want) {
			t.Errorf("Turn(% x): % x; want % x", c.b, got, c.want)
		}
	}
}

// TestP1_2TurnMovesEachBit: of n octets the bit at i from the beginning comes to stand at i from the end.
func TestP1_2TurnMovesEachBit(t *testing.T) {
	const all = 5 * 8
	for i := range all {
		b := make([]byte, 5)
		b[i/8] = 0x80 >> (i % 8)
		want := make([]byte, 5)
		j := all - 1 - i
		want[j/8] = 0x80 >> (j % 8)
		if got := octets.Turn(b); !bytes.Equal(got, want) {
			t.Errorf("Turn(% x): % x; want % x", b, got, want)
		}
	}
}

func TestP1_2Weight(t *testing.T) {
	for _, c := range []struct {
		b    []byte
		want int
	}{
		{nil, 0},
		{[]byte{}, 0},
		{[]byte{0}, 0},
		{[]byte{0x80}, 1},
		{[]byte{0x01, 0xc0}, 3},
		{[]byte{0xff, 0x00, 0x0f}, 12},
		{bytes.Repeat([]byte{0xff}, 1000), 8000},
	} {
		if got := octets.Weight(c.b); got != c.want {
			t.Errorf("Weight(% x): %d; want %d", c.b, got, c.want)
		}
	}
}

func TestP1_2Apart(t *testing.T) {
	for _, c := range []struct {
		a, b []byte
		want int
		err  api.Errno
	}{
		{nil, nil, 0, api.OK},
		{nil, []byte{}, 0, api.OK},
		{[]byte{}, nil, 0, api.OK},
		{[]byte{}, []byte{}, 0, api.OK},
		{[]byte{0x0f}, []byte{0xf0}, 8, api.OK},
		{[]byte{0x0f}, []byte{0x0e}, 1, api.OK},
		{[]byte{1, 2, 3}, []byte{1, 2, 3}, 0, api.OK},
		{[]byte{0xff, 0, 0x81}, []byte{0, 0, 0x80}, 9, api.OK},
		{nil, []byte{0}, 0, api.ErrCount},
		{[]byte{0}, nil, 0, api.ErrCount},
		{[]byte{1, 2}, []byte{1, 2, 3}, 0, api.ErrCount},
		{[]byte{1, 2, 3}, []byte{1, 2}, 0, api.ErrCount},
	} {
		if got, err := octets.Apart(c.a, c.b); got != c.want || err != c.err {
			t.Errorf("Apart(% x, % x): %d, %d; want %d, %d", c.a, c.b, got, err, c.want, c.err)
		}
	}
}

func TestP1_3Cut(t *testing.T) {
	for _, c := range []struct {
		b    string
		size int
		want []string
	}{
		{"", 1, nil},
		{"", 1 << 16, nil},
		{"a", 1, []string{"a"}},
		{"abc", 1, []string{"a", "b", "c"}},
		{"abcde", 2, []string{"ab", "cd", "e"}},
		{"abcdef", 2, []string{"ab", "cd", "ef"}},
		{"abcdef", 5, []string{"abcde", "f"}},
		{"abcdef", 6, []string{"abcdef"}},
		{"abcdef", 7, []string{"abcdef"}},
		{"abcdef", 1 << 16, []string{"abcdef"}},
	} {
		pieces, err := octets.Cut([]byte(c.b), c.size)
		var got []string
		for _, p := range pieces {
			got = append(got, string(p))
		}
		if !slices.Equal(got, c.want) || err != api.OK {
			t.Errorf("Cut(%q, %d): %q, %d; want %q", c.b, c.size, got, err, c.want)
		}
	}
}

func TestP1_3CutSizes(t *testing.T) {
	for _, size := range []int{math.MinInt, -1, 0, 1<<16 + 1, 1 << 31, math.MaxInt} {
		for _, b := range samples() {
			if pieces, err := octets.Cut(b, size); len(pieces) != 0 || err != api.ErrRange {
				t.Errorf("Cut of %d octets, %d: %d pieces, %d", len(b), size, len(pieces), err)
			}
		}
	}
	if pieces, err := octets.Cut(nil, 3); len(pieces) != 0 || err != api.OK {
		t.Errorf("Cut(nil, 3): %d pieces, %d", len(pieces), err)
	}
}

// TestP1_3CutAtTheGreatestSize: 2^16 octets are one piece, and one octet more is a second one.
func TestP1_3CutAtTheGreatestSize(t *testing.T) {
	for more := -1; more <= 1; more++ {
		b := bytes.Repeat([]byte{0x5a}, 1<<16+more)
		b[len(b)-1] = 0xa5
		pieces, err := octets.Cut(b, 1<<16)
		want := 1
		if more > 0 {
			want = 2
		}
		if len(pieces) != want || err != api.OK || !bytes.Equal(slices.Concat(pieces...), b) {
			t.Errorf("Cut of 2^16 and %d octets: %d pieces, %d", more, len(pieces), err)
		}
	}
}

// TestP1_3CutIsWhole: the pieces one behind the other are what was cut; all but the last are full, none is empty.
func TestP1_3CutIsWhole(t *testing.T) {
	for n := range 40 {
		b := make([]byte, n)
		for i := range b {
			b[i] = byte(i + 1)
		}
		for size := 1; size <= 42; size++ {
			pieces, err := octets.Cut(b, size)
			if err != api.OK || !bytes.Equal(slices.Concat(pieces...), b) {
				t.Fatalf("Cut of %d octets, %d: % x, %d", n, size, pieces, err)
			}
			for i, p := range pieces {
				if len(p) == 0 || len(p) > size || i < len(pieces)-1 && len(p) != size {
					t.Fatalf("Cut of %d octets, %d: piece %d has %d", n, size, i, len(p))
				}
			}
		}
	}
}

func TestP1_4GetOfPut(t *testing.T) {
	for size := 1; size <= 8; size++ {
		greatest := uint64(math.MaxUint64) >> (64 - 8*size)
		for _, n := range []uint64{0, 1, 127, 128, 254, 255, greatest / 3, greatest/2 + 1, greatest - 1, greatest} {
			b, err := octets.Put(n, size)
			if err != api.OK || len(b) != size {
				t.Fatalf("Put(%d, %d): % x, %d", n, size, b, err)
			}
			if got, err := octets.Get(b); got != n || err != api.OK {
				t.Errorf("Get(Put(%d, %d)): %d, %d", n, size, got, err)
			}
		}
	}
}

func TestP1_5TurnedTwice(t *testing.T) {
	for o := range 256 {
		b := []byte{byte(o)}
		if got := octets.Turn(octets.Turn(b)); !bytes.Equal(got, b) {
			t.Errorf("turned twice, % x is % x", b, got)
		}
	}
	for _, b := range samples() {
		if got := octets.Turn(octets.Turn(b)); !bytes.Equal(got, b) {
			t.Errorf("turned twice, % x is % x", b, got)
		}
	}
}

func apart(t *testing.T, a, b []byte) int {
	t.Helper()
	n, err := octets.Apart(a, b)
	if err != api.OK {
		t.Fatalf("Apart(% x, % x): %d", a, b, err)
	}
	return n
}

// TestP1_6Distance: all pairs and triples of some octets, as lists of two.
func TestP1_6Distance(t *testing.T) {
	var all [][]byte
	for _, first := range []byte{0x00, 0x01, 0x80, 0x5a, 0xff} {
		for _, second := range []byte{0x00, 0x01, 0x0f, 0xf0, 0xa5, 0xff} {
			all = append(all, []byte{first, second})
		}
	}
	for _, a := range all {
		for _, b := range all {
			d := apart(t, a, b)
			if (d == 0) != bytes.Equal(a, b) || d < 0 {
				t.Errorf("Apart(% x, % x): %d", a, b, d)
			}
			if back := apart(t, b, a); back != d {
				t.Errorf("Apart(% x, % x): %d, the other way %d", a, b, d, back)
			}
			for _, c := range all {
				if by := apart(t, a, c) + apart(t, c, b); d > by {
					t.Errorf("Apart(% x, % x): %d, by % x %d", a, b, d, c, by)
				}
			}
		}
	}
}

// withRoom answers b with room behind it, so that a call that appends to what it was given would be seen.
func withRoom(b []byte) (list []byte, whole []byte) {
	whole = append(slices.Clone(b), 0x11, 0x22, 0x33)
	return whole[:len(b)], whole
}

// TestP1_7ArgumentsStay: no call changes what it is given, nor what lies behind it.
func TestP1_7ArgumentsStay(t *testing.T) {
	for _, b := range samples() {
		list, whole := withRoom(b)
		other, otherWhole := withRoom(octets.Turn(b))
		before, otherBefore := slices.Clone(whole), slices.Clone(otherWhole)
		octets.Get(list)
		octets.Turn(list)
		octets.Weight(list)
		octets.Apart(list, other)
		octets.Cut(list, 2)
		octets.Cut(list, 1<<16)
		if !bytes.Equal(whole, before) || !bytes.Equal(otherWhole, otherBefore) {
			t.Errorf("an argument of %d octets was changed", len(b))
		}
	}
}

// flood overwrites a list and all the room that it has.
func flood(b []byte) {
	b = b[:cap(b)]
	for i := range b {
		b[i] ^= 0xff
	}
}

func TestP1_7PutIsNew(t *testing.T) {
	first, _ := octets.Put(258, 3)
	second, _ := octets.Put(258, 3)
	flood(first)
	third, _ := octets.Put(258, 3)
	if string(second) != "\x00\x01\x02" || string(third) != "\x00\x01\x02" {
		t.Errorf("Put: % x, % x", second, third)
	}
}

func TestP1_7TurnIsNew(t *testing.T) {
	for _, b := range samples() {
		list, whole := withRoom(b)
		before := slices.Clone(whole)
		first, second := octets.Turn(list), octets.Turn(list)
		want := slices.Clone(second)
		flood(first)
		if !bytes.Equal(whole, before) || !bytes.Equal(second, want) {
			t.Errorf("Turn of %d octets shares memory", len(b))
		}
		flood(list)
		if !bytes.Equal(second, want) {
			t.Errorf("Turn of %d octets hangs on its argument", len(b))
		}
	}
}

// TestP1_7CutIsNew: a piece that is overwritten leaves the argument and every other piece as they were.
func TestP1_7CutIsNew(t *testing.T) {
	for _, size := range []int{1, 2, 3, 9, 1 << 16} {
		list, whole := withRoom([]byte("abcdefghij"))
		before := slices.Clone(whole)
		pieces, _ := octets.Cut(list, size)
		again, _ := octets.Cut(list, size)
		for i := range pieces {
			kept := slices.Concat(pieces[i+1:]...)
			flood(pieces[i])
			if !bytes.Equal(slices.Concat(pieces[i+1:]...), kept) {
				t.Errorf("Cut with size %d: piece %d shares memory with a later one", size, i)
			}
		}
		if !bytes.Equal(whole, before) {
			t.Errorf("Cut with size %d: pieces share memory with the argument", size)
		}
		flood(list)
		if !bytes.Equal(slices.Concat(again...), before[:len(list)]) {
			t.Errorf("Cut with size %d: pieces hang on the argument or on another answer", size)
		}
	}
}

// TestP1_7CutListIsNew: the list of the pieces is new, too.
func TestP1_7CutListIsNew(t *testing.T) {
	first, _ := octets.Cut([]byte("abc"), 1)
	second, _ := octets.Cut([]byte("abc"), 1)
	clear(first)
	if string(slices.Concat(second...)) != "abc" {
		t.Errorf("Cut: two answers share a list: %q", second)
	}
}

// TestNilIsEmpty: nil and empty lists are one to every call (P1 of DOC.md).
func TestNilIsEmpty(t *testing.T) {
	if n, err := octets.Get(nil); n != 0 || err != api.ErrCount {
		t.Error("Get:", n, err)
	}
	if b := octets.Turn(nil); len(b) != len(octets.Turn([]byte{})) {
		t.Error("Turn:", b)
	}
	if n := octets.Weight(nil); n != octets.Weight([]byte{}) {
		t.Error("Weight:", n)
	}
	for _, size := range []int{-1, 0, 1, 1 << 16, 1<<16 + 1} {
		ofNil, errOfNil := octets.Cut(nil, size)
		ofEmpty, errOfEmpty := octets.Cut([]byte{}, size)
		if len(ofNil) != len(ofEmpty) || errOfNil != errOfEmpty {
			t.Error("Cut:", size, ofNil, errOfNil, ofEmpty, errOfEmpty)
		}
	}
}
