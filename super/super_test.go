package super_test

import (
	"bytes"
	"math"
	"slices"
	"sync"
	"testing"

	"transept/api"
	"transept/crc"
	"transept/disk"
	"transept/super"
)

const largest = 1 << 40

// block answers the block of those numbers, in the chapter's order.
func block(l [5]int) super.Block {
	return super.Block{Epoch: l[0], Root: l[1], Head: l[2], Tail: l[3], Version: l[4]}
}

// laid answers the 64 octets of numbers, by another hand than the program's: they need not be in range.
func laid(numbers ...uint64) []byte {
	b := []byte{0x74, 0x73, 0x62, 0x31}
	for _, n := range numbers {
		for shift := 56; shift >= 0; shift -= 8 {
			b = append(b, byte(n>>shift))
		}
	}
	return resealed(append(b, make([]byte, 64-len(b))...))
}

// resealed answers b with the checksum that fits what is ahead of it.
func resealed(b []byte) []byte {
	b = slices.Clone(b)
	s := crc.Sum(b[:44])
	b[44], b[45], b[46], b[47] = byte(s>>24), byte(s>>16), byte(s>>8), byte(s)
	return b
}

// laidOf answers the octets of a block by another hand than the program's.
func laidOf(b super.Block) []byte {
	return laid(uint64(b.Epoch), uint64(b.Root), uint64(b.Head), uint64(b.Tail), uint64(b.Version))
}

// with answers b with an octet set.
func with(b []byte, at int, to byte) []byte {
	b = slices.Clone(b)
	b[at] = to
	return b
}

// dice answers numbers without a plain order, each below the n that it is asked for.
func dice(seed uint64) func(n int) int {
	state := seed*0x9e3779b97f4a7c15 + 12345
	return func(n int) int {
		state = state*6364136223846793005 + 1442695040888963407
		return int((state >> 20) % uint64(n))
	}
}

// mayBe are blocks that may be, at the edges and between them.
func mayBe() []super.Block {
	l := []super.Block{
		{},
		block([5]int{1, 2, 3, 4, 5}),
		block([5]int{5, 4, 3, 2, 1}),
		block([5]int{largest, largest, largest, largest, largest}),
		block([5]int{largest - 1, largest, 0, 1, 255}),
		block([5]int{256, 65535, 65536, 1 << 32, 1<<32 - 1}),
	}
	for i := range 5 {
		for _, n := range []int{1, 255, 256, 1<<32 + 7, largest - 1, largest} {
			var numbers [5]int
			numbers[i] = n
			l = append(l, block(numbers))
		}
	}
	roll := dice(1)
	for range 20 {
		l = append(l, block([5]int{roll(largest), roll(largest), roll(largest), roll(largest), roll(largest)}))
	}
	return l
}

// mayNotBe are blocks of which one number or several are out of range.
func mayNotBe() []super.Block {
	var l []super.Block
	for i := range 5 {
		for _, n := range []int{-1, -2, -largest, largest + 1, largest + 2, 1 << 41, 1 << 62, math.MaxInt, math.MinInt, math.MinInt + 1} {
			for _, rest := range []int{0, 7, largest, -1} {
				numbers := [5]int{rest, rest, rest, rest, rest}
				numbers[i] = n
				l = append(l, block(numbers))
			}
		}
	}
	return l
}

func encoded(t *testing.T, b super.Block) []byte {
	t.Helper()
	e, err := super.Encode(b)
	if err != api.OK {
		t.Fatalf("Encode of %v: %d", b, err)
	}
	return e
}

func wantDecode(t *testing.T, what string, b []byte, want super.Block) {
	t.Helper()
	if got, err := super.Decode(b); err != api.OK || got != want {
		t.Errorf("Decode of %s: %v, %d; want %v", what, got, err, want)
	}
}

// wantNotDecoded: beside the error nothing else is told.
func wantNotDecoded(t *testing.T, what string, b []byte, want api.Errno) {
	t.Helper()
	if got, err := super.Decode(b); err != want || got != (super.Block{}) {
		t.Errorf("Decode of %s: %v, %d; want %d alone", what, got, err, want)
	}
}

func wantPick(t *testing.T, what string, a, b []byte, want super.Block, which int) {
	t.Helper()
	if got, n, err := super.Pick(a, b); err != api.OK || got != want || n != which {
		t.Errorf("Pick of %s: %v, %d, %d; want %v, %d", what, got, n, err, want, which)
	}
}

func wantLoad(t *testing.T, what string, d disk.State, want super.Block, which int) {
	t.Helper()
	if got, n, err := super.Load(d); err != api.OK || got != want || n != which {
		t.Errorf("Load of %s: %v, %d, %d; want %v, %d", what, got, n, err, want, which)
	}
}

func wantNotLoaded(t *testing.T, what string, d disk.State, want api.Errno) {
	t.Helper()
	if got, n, err := super.Load(d); err != want || got != (super.Block{}) || n != 0 {
		t.Errorf("Load of %s: %v, %d, %d; want %d alone", what, got, n, err, want)
	}
}

func wantNotStored(t *testing.T, what string, d disk.State, b super.Block, want api.Errno) {
	t.Helper()
	if got, err := super.Store(d, b); err != want || len(got.Sectors) != 0 || len(got.Cache) != 0 {
		t.Errorf("Store of %v on %s: %d sectors, %d writes, %d; want %d alone", b, what, len(got.Sectors), len(got.Cache), err, want)
	}
}

// zeros answers a disk of n sectors of zeros, by another hand than the program's.
func zeros(n int) disk.State {
	var d disk.State
	for range n {
		d.Sectors = append(d.Sectors, make([]byte, 64))
	}
	return d
}

func sameWrite(v, w disk.Write) bool {
	return v.Sector == w.Sector && bytes.Equal(v.Data, w.Data)
}

func same(d, e disk.State) bool {
	return slices.EqualFunc(d.Sectors, e.Sectors, bytes.Equal) && slices.EqualFunc(d.Cache, e.Cache, sameWrite)
}

// stored answers d with the blocks stored one by one.
func stored(t *testing.T, d disk.State, blocks ...super.Block) disk.State {
	t.Helper()
	for _, b := range blocks {
		next, err := super.Store(d, b)
		if err != api.OK {
			t.Fatalf("Store of %v: %d", b, err)
		}
		d = next
	}
	return d
}

// put answers d with octets in its cache.
func put(t *testing.T, d disk.State, sector int, b []byte) disk.State {
	t.Helper()
	next, err := disk.Put(d, sector, b)
	if err != api.OK {
		t.Fatalf("Put at %d: %d", sector, err)
	}
	return next
}

// TestExample is the chapter's.
func TestExample(t *testing.T) {
	b := encoded(t, super.Block{})
	if len(b) != 64 || !bytes.Equal(b[:4], []byte{0x74, 0x73, 0x62, 0x31}) {
		t.Errorf("Encode of zeros: % x", b)
	}
}

func TestP6_1Check(t *testing.T) {
	for _, b := range mayBe() {
		if err := super.Check(b); err != api.OK {
			t.Errorf("Check of %v: %d", b, err)
		}
	}
	for _, b := range mayNotBe() {
		if err := super.Check(b); err != api.ErrRange {
			t.Errorf("Check of %v: %d; want %d", b, err, api.ErrRange)
		}
	}
}

func TestP6_1Encode(t *testing.T) {
	for _, b := range mayBe() {
		if got, err := super.Encode(b); err != api.OK || !bytes.Equal(got, laidOf(b)) {
			t.Errorf("Encode of %v: % x, %d; want % x", b, got, err, laidOf(b))
		}
	}
	for _, b := range mayNotBe() {
		if got, err := super.Encode(b); err != api.ErrRange || len(got) != 0 {
			t.Errorf("Encode of %v: % x, %d; want %d alone", b, got, err, api.ErrRange)
		}
	}
}

// TestP6_1EncodeByHand: every octet written out, so that no helper of this file can share a fault with the program.
func TestP6_1EncodeByHand(t *testing.T) {
	want := []byte{
		't', 's', 'b', '1',
		0, 0, 0, 0, 0, 0, 0, 1,
		0, 0, 0, 0, 0, 0, 2, 3,
		0, 0, 1, 0, 0, 0, 0, 0,
		0, 0, 0, 0xff, 0xff, 0xff, 0xff, 0xff,
		0, 0, 0, 0, 0, 4, 5, 6,
	}
	s := crc.Sum(want)
	want = append(want, byte(s>>24), byte(s>>16), byte(s>>8), byte(s))
	want = append(want, 0, 0, 0, 0, 0, 0, 0, 0, 0, 0, 0, 0, 0, 0, 0, 0)
	b := super.Block{Epoch: 1, Root: 0x203, Head: largest, Tail: largest - 1, Version: 0x40506}
	if got := encoded(t, b); !bytes.Equal(got, want) {
		t.Errorf("Encode: % x; want % x", got, want)
	}
	wantDecode(t, "octets written out", want, b)
}

func TestP6_1DecodeCount(t *testing.T) {
	whole := laid(1, 2, 3, 4, 5)
	for n := range 64 {
		wantNotDecoded(t, "too few octets", whole[:n], api.ErrCount)
	}
	wantDecode(t, "64 octets", whole, block([5]int{1, 2, 3, 4, 5}))
	for _, more := range []int{1, 2, 63, 64, 4096} {
		wantNotDecoded(t, "too many octets", append(slices.Clone(whole), make([]byte, more)...), api.ErrCount)
	}
	wantNotDecoded(t, "nil", nil, api.ErrCount)
	wantNotDecoded(t, "no octets", []byte{}, api.ErrCount)
}

func TestP6_1DecodeKind(t *testing.T) {
	for at := range 4 {
		for _, to := range []byte{0, 'T', '2', 0xff} {
			wantNotDecoded(t, "another mark, the sum fits", resealed(with(laid(1, 2, 3, 4, 5), at, to)), api.ErrKind)
		}
	}
	wantNotDecoded(t, "64 zeros", make([]byte, 64), api.ErrKind)
}

func TestP6_1DecodeCorrupt(t *testing.T) {
	whole := laid(1, 2, 3, 4, 5)
	for at := 4; at < 48; at++ {
		for _, bits := range []byte{1, 2, 0x80, 0xff} {
			wantNotDecoded(t, "another octet", with(whole, at, whole[at]^bits), api.ErrCorrupt)
		}
	}
	turned := slices.Clone(whole)
	slices.Reverse(turned[44:48])
	wantNotDecoded(t, "a checksum with its lowest octet first", turned, api.ErrCorrupt)
	short := slices.Clone(whole)
	s := crc.Sum(short[4:44])
	short[44], short[45], short[46], short[47] = byte(s>>24), byte(s>>16), byte(s>>8), byte(s)
	wantNotDecoded(t, "a checksum of the numbers alone", short, api.ErrCorrupt)
}

func TestP6_1DecodeTail(t *testing.T) {
	for at := 48; at < 64; at++ {
		for _, to := range []byte{1, 0x80, 0xff} {
			wantNotDecoded(t, "an octet behind the checksum", with(laid(1, 2, 3, 4, 5), at, to), api.ErrTail)
		}
	}
}

func TestP6_1DecodeRange(t *testing.T) {
	for i := range 5 {
		for _, n := range []uint64{largest + 1, largest + 2, 1 << 41, 1 << 62, 1<<63 - 1, 1 << 63, 1<<63 + 1, math.MaxUint64} {
			for _, rest := range []uint64{0, 1, largest, math.MaxUint64} {
				numbers := []uint64{rest, rest, rest, rest, rest}
				numbers[i] = n
				wantNotDecoded(t, "a number above 2^40", laid(numbers...), api.ErrRange)
			}
		}
		numbers := make([]uint64, 5)
		numbers[i] = largest
		var want [5]int
		want[i] = largest
		wantDecode(t, "a number of 2^40", laid(numbers...), block(want))
	}
}

// fault is one thing that may be wrong with an encoded block. Those of a list are laid in the list's order:
// from the one that is told last to the one that is told first.
type fault struct {
	err  api.Errno
	laid func(b []byte) []byte
}

func faults() []fault {
	return []fault{
		{api.ErrRange, func(b []byte) []byte { return resealed(with(b, 4, 0x80)) }},
		{api.ErrTail, func(b []byte) []byte { return with(b, 63, 1) }},
		{api.ErrCorrupt, func(b []byte) []byte { return with(b, 47, b[47]^1) }},
		{api.ErrKind, func(b []byte) []byte { return with(b, 3, '2') }},
		{api.ErrCount, func(b []byte) []byte { return append(b, 0) }},
	}
}

// TestP6_1DecodeOrder: of all sets of faults that one is told which the chapter names first.
func TestP6_1DecodeOrder(t *testing.T) {
	for set := 1; set < 1<<5; set++ {
		b, want := laid(1, 2, 3, 4, 5), api.OK
		for i, f := range faults() {
			if set>>i&1 == 1 {
				b, want = f.laid(b), f.err
			}
		}
		wantNotDecoded(t, "several faults", b, want)
	}
}

func TestP6_2Pick(t *testing.T) {
	epochs := []int{0, 1, 2, 255, 256, 65536, largest - 1, largest}
	for _, m := range epochs {
		for _, n := range epochs {
			first, second := super.Block{Epoch: m, Root: 7, Version: 1}, super.Block{Epoch: n, Root: 9, Tail: largest}
			a, b := laidOf(first), laidOf(second)
			if m >= n {
				wantPick(t, "two, the first not elder", a, b, first, 0)
			} else {
				wantPick(t, "two, the second later", a, b, second, 1)
			}
		}
	}
}

// unread are octets of which no block comes out.
func unread() [][]byte {
	l := [][]byte{nil, {}, make([]byte, 64), []byte("tsb1"), laid(9, 9, 9, 9, 9)[:63], append(laid(9, 9, 9, 9, 9), 0)}
	for _, f := range faults() {
		l = append(l, f.laid(laid(9, 9, 9, 9, 9)))
	}
	return l
}

func TestP6_2PickOneAlone(t *testing.T) {
	for _, b := range []super.Block{{}, block([5]int{1, 2, 3, 4, 5}), {Epoch: largest}, {Version: 3}} {
		for _, bad := range unread() {
			wantPick(t, "the first alone", laidOf(b), bad, b, 0)
			wantPick(t, "the second alone", bad, laidOf(b), b, 1)
		}
	}
}

func TestP6_2PickNone(t *testing.T) {
	for _, a := range unread() {
		for _, b := range unread() {
			if got, n, err := super.Pick(a, b); err != api.ErrCorrupt || got != (super.Block{}) || n != 0 {
				t.Errorf("Pick of neither: %v, %d, %d; want %d alone", got, n, err, api.ErrCorrupt)
			}
		}
	}
}

// TestP6_2PickOfOne: the same octets twice, in one memory or in two, are the first.
func TestP6_2PickOfOne(t *testing.T) {
	b := laid(6, 5, 4, 3, 2)
	wantPick(t, "the same twice", b, b, block([5]int{6, 5, 4, 3, 2}), 0)
	wantPick(t, "the same in two memories", b, slices.Clone(b), block([5]int{6, 5, 4, 3, 2}), 0)
}

// disksThatMayNotBe: each has two superblocks, as far as it has room.
func disksThatMayNotBe() map[string]disk.State {
	good := func() disk.State {
		return disk.State{Sectors: [][]byte{laid(2, 0, 0, 0, 0), laid(1, 0, 0, 0, 0), make([]byte, 64)}}
	}
	shorter, longer, behind, far, below, brief := good(), good(), good(), good(), good(), good()
	shorter.Sectors[2] = make([]byte, 63)
	longer.Sectors[0] = append(longer.Sectors[0], 0)
	behind.Sectors[1] = nil
	far.Cache = []disk.Write{{Sector: 3, Data: make([]byte, 64)}}
	below.Cache = []disk.Write{{Sector: -1, Data: make([]byte, 64)}}
	brief.Cache = []disk.Write{{Sector: 1, Data: make([]byte, 10)}}
	one := zeros(1)
	one.Sectors[0] = nil
	return map[string]disk.State{
		"no disk":               {},
		"empty lists":           {Sectors: [][]byte{}, Cache: []disk.Write{}},
		"a short sector":        shorter,
		"a long sector":         longer,
		"a sector of nil":       behind,
		"a write too far":       far,
		"a write below 0":       below,
		"a short write":         brief,
		"1025 sectors":          zeros(1025),
		"one sector, and short": one,
	}
}

func TestP6_2DisksErrorFirst(t *testing.T) {
	for what, d := range disksThatMayNotBe() {
		wantNotLoaded(t, what, d, api.ErrState)
		for _, b := range []super.Block{{}, {Epoch: 1}, {Epoch: -1}, {Version: largest + 1}} {
			wantNotStored(t, what, d, b, api.ErrState)
		}
	}
}

func TestP6_2TooFewSectors(t *testing.T) {
	d := zeros(1)
	for range 2 {
		wantNotLoaded(t, "one sector", d, api.ErrSector)
		for _, b := range append(mayNotBe(), super.Block{}, super.Block{Epoch: 1}, super.Block{Epoch: 2}) {
			wantNotStored(t, "one sector", d, b, api.ErrSector)
		}
		d.Sectors[0] = laid(2, 3, 4, 5, 6)
	}
	for range 4096 {
		d.Cache = append(d.Cache, disk.Write{Sector: 0, Data: laid(4, 3, 4, 5, 6)})
	}
	wantNotLoaded(t, "one sector and a full cache", d, api.ErrSector)
	wantNotStored(t, "one sector and a full cache", d, super.Block{}, api.ErrSector)
}

func TestP6_2Load(t *testing.T) {
	for _, n := range []int{2, 3, 4, 64, 1024} {
		d := zeros(n)
		wantNotLoaded(t, "zeros", d, api.ErrCorrupt)
		d.Sectors[n-1] = laid(largest, 9, 9, 9, 9)
		if n > 2 {
			wantNotLoaded(t, "a block in the last sector alone", d, api.ErrCorrupt)
		}
		d.Sectors[0], d.Sectors[1] = laid(4, 1, 1, 1, 1), laid(3, 2, 2, 2, 2)
		wantLoad(t, "two, the first later", d, block([5]int{4, 1, 1, 1, 1}), 0)
		d.Sectors[1] = laid(5, 2, 2, 2, 2)
		wantLoad(t, "two, the second later", d, block([5]int{5, 2, 2, 2, 2}), 1)
		d.Sectors[1] = laid(4, 2, 2, 2, 2)
		wantLoad(t, "two of one Epoch", d, block([5]int{4, 1, 1, 1, 1}), 0)
		d.Sectors[1] = make([]byte, 64)
		wantLoad(t, "the first alone", d, block([5]int{4, 1, 1, 1, 1}), 0)
		d.Sectors[0], d.Sectors[1] = d.Sectors[1], d.Sectors[0]
		wantLoad(t, "the second alone", d, block([5]int{4, 1, 1, 1, 1}), 1)
	}
}

// TestP6_2LoadSeesTheCache: sectors are read as disk.Get tells them, the latest write ahead of the disk.
func TestP6_2LoadSeesTheCache(t *testing.T) {
	d := zeros(3)
	d.Sectors[0], d.Sectors[1] = laid(2, 1, 1, 1, 1), laid(1, 2, 2, 2, 2)
	d = put(t, d, 1, laid(3, 3, 3, 3, 3))
	wantLoad(t, "a write of the second", d, block([5]int{3, 3, 3, 3, 3}), 1)
	d = put(t, d, 0, laid(4, 4, 4, 4, 4))
	wantLoad(t, "a write of the first", d, block([5]int{4, 4, 4, 4, 4}), 0)
	d = put(t, d, 2, laid(9, 9, 9, 9, 9))
	wantLoad(t, "a write elsewhere", d, block([5]int{4, 4, 4, 4, 4}), 0)
	d = put(t, d, 0, nil)
	wantLoad(t, "zeros over the first", d, block([5]int{3, 3, 3, 3, 3}), 1)
	d = put(t, d, 1, []byte("tsb1"))
	wantNotLoaded(t, "both written over", d, api.ErrCorrupt)
}

func TestP6_2Store(t *testing.T) {
	for _, n := range []int{2, 3, 1024} {
		for _, b := range mayBe() {
			got, err := super.Store(zeros(n), b)
			want := zeros(n)
			want.Sectors[b.Epoch%2] = laidOf(b)
			if err != api.OK || !same(got, want) {
				t.Errorf("Store of %v on %d sectors: %d, or another state", b, n, err)
			}
			wantLoad(t, "what was stored", got, b, b.Epoch%2)
		}
	}
	for _, b := range mayNotBe() {
		wantNotStored(t, "two sectors", zeros(2), b, api.ErrRange)
	}
}

// TestP6_2StoreTurns: the sector of the other turn, and all others, stay as they are.
func TestP6_2StoreTurns(t *testing.T) {
	d := zeros(4)
	d.Sectors[2], d.Sectors[3] = laid(8, 8, 8, 8, 8), bytes.Repeat([]byte{7}, 64)
	for epoch := range 20 {
		want := disk.State{Sectors: slices.Clone(d.Sectors)}
		b := super.Block{Epoch: epoch, Root: 3 * epoch, Head: epoch / 2, Tail: epoch + 1, Version: epoch % 3}
		want.Sectors[epoch%2] = laidOf(b)
		d = stored(t, d, b)
		if !same(d, want) {
			t.Fatalf("Store of Epoch %d: another state", epoch)
		}
		wantLoad(t, "what was stored last", d, b, epoch%2)
	}
	elder := stored(t, d, super.Block{Epoch: 3})
	wantLoad(t, "an elder one over the last", elder, super.Block{Epoch: 18, Root: 54, Head: 9, Tail: 19}, 0)
}

// TestP6_2StoreFlushes: what waited in the cache is on the disk behind it, in its order, b last.
func TestP6_2StoreFlushes(t *testing.T) {
	d := put(t, zeros(3), 2, []byte("ab"))
	d = put(t, d, 1, laid(9, 9, 9, 9, 9))
	d = put(t, d, 0, laid(8, 8, 8, 8, 8))
	d = put(t, d, 2, []byte("cd"))
	b := super.Block{Epoch: 11, Root: 5}
	want := disk.State{Sectors: [][]byte{laid(8, 8, 8, 8, 8), laidOf(b), append([]byte("cd"), make([]byte, 62)...)}}
	if got := stored(t, d, b); !same(got, want) {
		t.Errorf("Store behind writes: another state")
	}
}

func TestP6_2StoreOnAFullCache(t *testing.T) {
	d := zeros(2)
	for range 4095 {
		d.Cache = append(d.Cache, disk.Write{Sector: 1, Data: make([]byte, 64)})
	}
	wantLoad(t, "one more write", stored(t, d, super.Block{Epoch: 3}), super.Block{Epoch: 3}, 1)
	d.Cache = append(d.Cache, disk.Write{Sector: 0, Data: laid(2, 0, 0, 0, 0)})
	wantNotStored(t, "a full cache", d, super.Block{Epoch: 3}, api.ErrFull)
	wantNotStored(t, "a full cache", d, super.Block{Epoch: -3}, api.ErrRange)
	wantLoad(t, "a full cache", d, super.Block{Epoch: 2}, 0)
}

func TestP6_3DecodeOfEncode(t *testing.T) {
	for _, b := range mayBe() {
		wantDecode(t, "what was encoded", encoded(t, b), b)
	}
}

func TestP6_3OneBitTurned(t *testing.T) {
	for _, b := range mayBe() {
		whole := encoded(t, b)
		for bit := range 8 * 64 {
			turned := slices.Clone(whole)
			turned[bit/8] ^= 1 << (bit % 8)
			want := api.ErrCorrupt
			if bit < 8*4 {
				want = api.ErrKind
			} else if bit >= 8*48 {
				want = api.ErrTail
			}
			wantNotDecoded(t, "one bit turned", turned, want)
		}
	}
}

// pairs are two blocks each of which the second is the next, and what stood in its sector.
func pairs() [][3]super.Block {
	l := [][3]super.Block{
		{{}, {}, {Epoch: 1}},
		{{Epoch: 1, Root: 1}, {Epoch: 2, Root: 2}, {Epoch: 3, Root: 3}},
		{{Epoch: 2, Root: 1, Head: 1}, {Epoch: 3, Root: 2, Head: 1}, {Epoch: 4, Root: 1, Head: 1}},
		{{Epoch: 254, Tail: 255}, {Epoch: 255, Tail: 256}, {Epoch: 256, Tail: 257}},
		{{Epoch: largest - 2}, {Epoch: largest - 1}, {Epoch: largest, Root: largest, Head: largest, Tail: largest, Version: largest}},
	}
	roll := dice(4)
	for range 6 {
		n := roll(largest - 2)
		var p [3]super.Block
		for i := range p {
			p[i] = super.Block{Epoch: n + i, Root: roll(largest), Head: roll(largest), Tail: roll(largest), Version: roll(3)}
		}
		l = append(l, p)
	}
	return l
}

func crashed(t *testing.T, d disk.State, keep []bool, torn, cut int) disk.State {
	t.Helper()
	next, err := disk.Crash(d, keep, torn, cut)
	if err != api.OK {
		t.Fatalf("Crash: %d", err)
	}
	return next
}

// TestP6_4OldOrNew: one block stored, the next one put: kept, not kept, and torn behind each of its octets.
func TestP6_4OldOrNew(t *testing.T) {
	for _, p := range pairs() {
		before, now, next := p[0], p[1], p[2]
		for _, d := range []disk.State{stored(t, zeros(2), now), stored(t, zeros(5), before, now)} {
			wantLoad(t, "the stored one", d, now, now.Epoch%2)
			written := put(t, d, next.Epoch%2, encoded(t, next))
			wantLoad(t, "the next one in the cache", written, next, next.Epoch%2)
			wantLoad(t, "nothing kept", crashed(t, written, nil, 0, 64), now, now.Epoch%2)
			wantLoad(t, "not kept", crashed(t, written, []bool{false}, 0, 64), now, now.Epoch%2)
			wantLoad(t, "kept", crashed(t, written, []bool{true}, -1, 0), next, next.Epoch%2)
			for cut := range 65 {
				want := now
				if bytes.Equal(mixed(written, cut), encoded(t, next)) {
					want = next
				}
				wantLoad(t, "torn", crashed(t, written, []bool{true}, 0, cut), want, want.Epoch%2)
			}
		}
	}
}

// mixed answers what stands in the sector of the one write of d, of which a beginning has landed.
func mixed(d disk.State, cut int) []byte {
	w := d.Cache[0]
	return append(slices.Clone(w.Data[:cut]), d.Sectors[w.Sector][cut:]...)
}

// TestP6_4AnyMask: where more writes wait, each may be kept or not, and one of them torn.
func TestP6_4AnyMask(t *testing.T) {
	now, next := super.Block{Epoch: 6, Root: 60}, super.Block{Epoch: 7, Root: 70}
	d := stored(t, zeros(4), super.Block{Epoch: 5, Root: 50}, now)
	d = put(t, d, 3, []byte("page"))
	d = put(t, d, next.Epoch%2, encoded(t, next))
	d = put(t, d, 2, []byte("page"))
	for mask := range 8 {
		keep := []bool{mask&1 != 0, mask&2 != 0, mask&4 != 0}
		for torn := range 4 {
			for cut := range 65 {
				want := now
				if keep[1] && (torn != 1 || cut >= 48) {
					want = next
				}
				wantLoad(t, "any mask", crashed(t, d, keep, torn, cut), want, want.Epoch%2)
			}
		}
	}
}

// TestP6_4Chain: blocks stored one by one, each tried and crashed once before.
func TestP6_4Chain(t *testing.T) {
	roll := dice(7)
	last := super.Block{Epoch: 1, Root: 1}
	d := stored(t, zeros(3), last)
	for epoch := 2; epoch < 200; epoch++ {
		next := super.Block{Epoch: epoch, Root: roll(1000), Head: roll(10), Tail: roll(10), Version: 1 + roll(2)}
		tried := put(t, d, epoch%2, encoded(t, next))
		tried = crashed(t, tried, []bool{roll(3) > 0}, 0, roll(70))
		got, n, err := super.Load(tried)
		if err != api.OK || got != last && got != next || n != got.Epoch%2 {
			t.Fatalf("Load behind a crash: %v, %d, %d; want %v or %v", got, n, err, last, next)
		}
		d, last = stored(t, tried, next), next
		wantLoad(t, "stored again", d, next, epoch%2)
	}
}

func rotted(t *testing.T, d disk.State, sector, at int, bits byte) disk.State {
	t.Helper()
	next, err := disk.Rot(d, sector, at, bits)
	if err != api.OK {
		t.Fatalf("Rot of sector %d at %d: %d", sector, at, err)
	}
	return next
}

func TestP6_5RotOfOne(t *testing.T) {
	for _, p := range pairs()[1:] {
		elder, later := p[0], p[1]
		d := stored(t, zeros(2), elder, later)
		for at := range 64 {
			for _, bits := range []byte{1, 4, 0x80, 0xff} {
				wantLoad(t, "the later one rotten", rotted(t, d, later.Epoch%2, at, bits), elder, elder.Epoch%2)
				wantLoad(t, "the elder one rotten", rotted(t, d, elder.Epoch%2, at, bits), later, later.Epoch%2)
				both := rotted(t, rotted(t, d, 0, at, bits), 1, 63-at, bits)
				wantNotLoaded(t, "both rotten", both, api.ErrCorrupt)
			}
		}
		wantLoad(t, "no bits turned", rotted(t, d, later.Epoch%2, 5, 0), later, later.Epoch%2)
	}
}

// roomy answers b in the midst of a longer list, and that list: who writes behind b is seen there.
func roomy(b []byte) (list []byte, whole []byte) {
	whole = append(slices.Clone(b), bytes.Repeat([]byte{0xa5}, 80)...)
	return whole[:len(b)], whole
}

// roomyDisk answers d with room behind each of its lists, and a function that answers all of that memory.
func roomyDisk(d disk.State) (disk.State, func() []byte) {
	var wholes [][]byte
	var r disk.State
	for _, held := range d.Sectors {
		list, whole := roomy(held)
		r.Sectors, wholes = append(r.Sectors, list), append(wholes, whole)
	}
	for _, w := range d.Cache {
		list, whole := roomy(w.Data)
		r.Cache, wholes = append(r.Cache, disk.Write{Sector: w.Sector, Data: list}), append(wholes, whole)
	}
	r.Cache = append(r.Cache, disk.Write{Sector: 1, Data: []byte("behind")})
	r.Sectors = append(r.Sectors, []byte("behind"))
	all := r
	r.Cache, r.Sectors = r.Cache[:len(d.Cache)], r.Sectors[:len(d.Sectors)]
	return r, func() []byte {
		l := slices.Concat(wholes...)
		for _, held := range all.Sectors {
			l = append(l, held...)
		}
		for _, w := range all.Cache {
			l = append(append(l, byte(w.Sector)), w.Data...)
		}
		return l
	}
}

// flood writes over all of b's memory, up to its capacity.
func flood(b []byte) {
	b = b[:cap(b)]
	for i := range b {
		b[i] = 0x5a
	}
}

// floodDisk writes over all that d holds.
func floodDisk(d disk.State) {
	for _, held := range d.Sectors[:cap(d.Sectors)] {
		flood(held)
	}
	for _, w := range d.Cache[:cap(d.Cache)] {
		flood(w.Data)
	}
	clear(d.Sectors[:cap(d.Sectors)])
	clear(d.Cache[:cap(d.Cache)])
}

// sampleDisk has two blocks on it, one in its cache, and a page's write.
func sampleDisk(t *testing.T) disk.State {
	t.Helper()
	d := stored(t, zeros(3), super.Block{Epoch: 2, Root: 2}, super.Block{Epoch: 3, Root: 3})
	return put(t, put(t, d, 2, []byte("page")), 0, laid(4, 4, 4, 4, 4))
}

func TestP6_6ArgumentsStay(t *testing.T) {
	for _, b := range append(unread(), laid(1, 2, 3, 4, 5)) {
		list, whole := roomy(b)
		kept := slices.Clone(whole)
		super.Decode(list)
		super.Pick(list, list)
		super.Pick(list, laid(2, 2, 2, 2, 2))
		super.Pick(laid(2, 2, 2, 2, 2), list)
		if !bytes.Equal(whole, kept) {
			t.Errorf("octets that were handed in have changed")
		}
	}
	d, memory := roomyDisk(sampleDisk(t))
	kept := memory()
	super.Load(d)
	for _, b := range []super.Block{{}, {Epoch: 5}, {Epoch: 6}, {Epoch: -1}} {
		super.Store(d, b)
	}
	if !bytes.Equal(memory(), kept) {
		t.Errorf("a disk that was handed in has changed")
	}
}

func TestP6_6AnswersAreNew(t *testing.T) {
	b := block([5]int{1, 2, 3, 4, 5})
	first, second := encoded(t, b), encoded(t, b)
	flood(first)
	if !bytes.Equal(second, laidOf(b)) || !bytes.Equal(encoded(t, b), laidOf(b)) {
		t.Errorf("two answers of Encode share memory")
	}
	given, memory := roomyDisk(sampleDisk(t))
	kept := memory()
	one, two := stored(t, given, b), stored(t, given, b)
	want, _ := disk.Flush(one)
	floodDisk(one)
	if !same(two, want) || !bytes.Equal(memory(), kept) {
		t.Errorf("an answer of Store shares memory with another one or with its argument")
	}
	floodDisk(given)
	if !same(two, want) {
		t.Errorf("an answer of Store has kept its argument")
	}
	octets := laidOf(b)
	read, _ := super.Decode(octets)
	flood(octets)
	if read != b {
		t.Errorf("an answer of Decode has kept its argument")
	}
}

// TestP6_6ListsOfOneAnswer: to write over one of a disk's sectors leaves the others.
func TestP6_6ListsOfOneAnswer(t *testing.T) {
	shared := laid(2, 2, 2, 2, 2)
	d := disk.State{Sectors: [][]byte{shared, shared, shared}, Cache: []disk.Write{{Sector: 2, Data: shared}}}
	for at := range 3 {
		got := stored(t, d, super.Block{Epoch: 3})
		kept, _ := disk.Flush(got)
		flood(got.Sectors[at])
		for i := range 3 {
			if i != at && !bytes.Equal(got.Sectors[i], kept.Sectors[i]) {
				t.Errorf("sectors %d and %d of one answer share memory", at, i)
			}
		}
	}
}

func TestNilAndEmpty(t *testing.T) {
	wantPick(t, "nil and one", nil, laid(1, 0, 0, 0, 0), super.Block{Epoch: 1}, 1)
	wantPick(t, "empty and one", []byte{}, laid(1, 0, 0, 0, 0), super.Block{Epoch: 1}, 1)
	d := zeros(2)
	e := disk.State{Sectors: d.Sectors, Cache: []disk.Write{}}
	b := super.Block{Epoch: 9, Head: 2}
	if !same(stored(t, d, b), stored(t, e, b)) {
		t.Errorf("Store: a nil and an empty cache are not one")
	}
	wantLoad(t, "an empty cache", disk.State{Sectors: [][]byte{laidOf(b), laidOf(b)}, Cache: []disk.Write{}}, b, 0)
}

// TestSameAgain: what a call answers hangs on its arguments alone, whoever else calls.
func TestSameAgain(t *testing.T) {
	d := sampleDisk(t)
	blocks := mayBe()
	var wait sync.WaitGroup
	for range 8 {
		wait.Go(func() {
			for _, b := range blocks {
				e, err := super.Encode(b)
				if err != api.OK || !bytes.Equal(e, laidOf(b)) {
					t.Errorf("Encode of %v beside others: %d", b, err)
				}
				wantDecode(t, "octets beside others", e, b)
				next, err := super.Store(d, b)
				if err != api.OK || !bytes.Equal(next.Sectors[b.Epoch%2], laidOf(b)) {
					t.Errorf("Store of %v beside others: %d", b, err)
				}
			}
			wantLoad(t, "a disk beside others", d, block([5]int{4, 4, 4, 4, 4}), 0)
		})
	}
	wait.Wait()
}
