package pages_test

import (
	"bytes"
	"math"
	"slices"
	"sync"
	"testing"

	"transept/api"
	"transept/crc"
	"transept/disk"
	"transept/pages"
)

const largestID = 1<<31 - 1

// page is what one page holds.
type page struct {
	id   int
	data []byte
}

// laid answers 256 octets that tell length and id, by another hand than the program's: neither need be right.
func laid(length uint16, id uint32, data []byte) []byte {
	b := make([]byte, 256)
	b[0], b[1] = 0x70, 0x67
	b[2], b[3] = byte(length>>8), byte(length)
	b[4], b[5], b[6], b[7] = byte(id>>24), byte(id>>16), byte(id>>8), byte(id)
	copy(b[8:252], data)
	return resealed(b)
}

func laidOf(p page) []byte {
	return laid(uint16(len(p.data)), uint32(p.id), p.data)
}

// resealed answers b with the checksum that fits what is ahead of it.
func resealed(b []byte) []byte {
	b = slices.Clone(b)
	sum := crc.Sum(b[:252])
	for i := range 4 {
		b[252+i] = byte(sum >> (24 - 8*i))
	}
	return b
}

// with answers b with an octet set, and the checksum as it was.
func with(b []byte, at int, to byte) []byte {
	b = slices.Clone(b)
	b[at] = to
	return b
}

// text answers n octets without a plain order, none of them 0.
func text(n int, seed uint64) []byte {
	b, state := make([]byte, n), seed
	for i := range b {
		state = state*6364136223846793005 + 1442695040888963407
		b[i] = byte(state>>40)%255 + 1
	}
	return b
}

// mayBe are pages that may be, at the edges and between them.
func mayBe() []page {
	var l []page
	for _, id := range []int{0, 1, 7, 255, 256, 65535, 65536, 1 << 24, 1 << 30, largestID - 1, largestID} {
		l = append(l, page{id, nil}, page{id, []byte{}})
		for _, n := range []int{1, 2, 55, 56, 57, 120, 184, 243, 244} {
			l = append(l, page{id, text(n, uint64(id+n))}, page{id, make([]byte, n)})
		}
	}
	return l
}

func idsThatMayNotBe() []int {
	return []int{-1, -2, -largestID, 1 << 31, 1<<31 + 1, 1 << 32, 1<<32 + 7, 1 << 40, math.MaxInt, math.MinInt, math.MinInt + 1}
}

// tooLong are lengths of data for which no page has room.
func tooLong() []int {
	return []int{245, 246, 252, 256, 257, 4096, 65535, 65536, 65537, 1 << 17}
}

func encoded(t *testing.T, p page) []byte {
	t.Helper()
	b, err := pages.Encode(p.id, p.data)
	if err != api.OK {
		t.Fatalf("Encode of %d, %d octets: %d", p.id, len(p.data), err)
	}
	return b
}

func wantNotEncoded(t *testing.T, id int, data []byte, want api.Errno) {
	t.Helper()
	if got, err := pages.Encode(id, data); err != want || len(got) != 0 {
		t.Errorf("Encode of %d, %d octets: %d octets, %d; want %d alone", id, len(data), len(got), err, want)
	}
}

func wantDecode(t *testing.T, what string, b []byte, want page) {
	t.Helper()
	if id, data, err := pages.Decode(b); err != api.OK || id != want.id || !bytes.Equal(data, want.data) {
		t.Errorf("Decode of %s: %d, % x, %d; want %d, % x", what, id, data, err, want.id, want.data)
	}
}

// wantNotDecoded: beside the error nothing else is told.
func wantNotDecoded(t *testing.T, what string, b []byte, want api.Errno) {
	t.Helper()
	if id, data, err := pages.Decode(b); err != want || id != 0 || len(data) != 0 {
		t.Errorf("Decode of %s: %d, % x, %d; want %d alone", what, id, data, err, want)
	}
}

func wantRead(t *testing.T, what string, d disk.State, at int, want page) {
	t.Helper()
	if data, err := pages.Read(d, at, want.id); err != api.OK || !bytes.Equal(data, want.data) {
		t.Errorf("Read of %s at %d by %d: % x, %d; want % x", what, at, want.id, data, err, want.data)
	}
}

func wantNotRead(t *testing.T, what string, d disk.State, at, id int, want api.Errno) {
	t.Helper()
	if data, err := pages.Read(d, at, id); err != want || len(data) != 0 {
		t.Errorf("Read of %s at %d by %d: % x, %d; want %d alone", what, at, id, data, err, want)
	}
}

func wantNotWritten(t *testing.T, what string, d disk.State, at int, p page, want api.Errno) {
	t.Helper()
	got, err := pages.Write(d, at, p.id, p.data)
	if err != want || len(got.Sectors) != 0 || len(got.Cache) != 0 {
		t.Errorf("Write of %d on %s at %d: %d sectors, %d writes, %d; want %d alone", p.id, what, at, len(got.Sectors), len(got.Cache), err, want)
	}
}

// zeros answers a disk of n sectors of zeros, by another hand than the program's.
func zeros(n int) disk.State {
	d := disk.State{Sectors: make([][]byte, n)}
	for i := range d.Sectors {
		d.Sectors[i] = make([]byte, 64)
	}
	return d
}

func sameWrite(v, w disk.Write) bool {
	return v.Sector == w.Sector && bytes.Equal(v.Data, w.Data)
}

func same(d, e disk.State) bool {
	return slices.EqualFunc(d.Sectors, e.Sectors, bytes.Equal) && slices.EqualFunc(d.Cache, e.Cache, sameWrite)
}

func written(t *testing.T, d disk.State, at int, p page) disk.State {
	t.Helper()
	next, err := pages.Write(d, at, p.id, p.data)
	if err != api.OK {
		t.Fatalf("Write of %d at %d: %d", p.id, at, err)
	}
	return next
}

func flushed(t *testing.T, d disk.State) disk.State {
	t.Helper()
	next, err := disk.Flush(d)
	if err != api.OK {
		t.Fatalf("Flush: %d", err)
	}
	return next
}

// laidOn answers d with a page in its four sectors, by another hand than the program's.
func laidOn(d disk.State, at int, b []byte) disk.State {
	d.Sectors = slices.Clone(d.Sectors)
	for i := range 4 {
		d.Sectors[at+i] = slices.Clone(b[64*i : 64*i+64])
	}
	return d
}

// TestExample is the chapter's.
func TestExample(t *testing.T) {
	b := encoded(t, page{7, []byte("x")})
	if len(b) != 256 || !bytes.Equal(b[:9], []byte{0x70, 0x67, 0, 1, 0, 0, 0, 7, 0x78}) {
		t.Errorf("Encode of 7, x: % x", b)
	}
}

func TestP7_1Encode(t *testing.T) {
	for _, p := range mayBe() {
		if got := encoded(t, p); !bytes.Equal(got, laidOf(p)) {
			t.Errorf("Encode of %d, % x: % x; want % x", p.id, p.data, got, laidOf(p))
		}
	}
}

// TestP7_1EncodeByHand: every octet written out, so that no helper of this file can share a fault with the program.
func TestP7_1EncodeByHand(t *testing.T) {
	want := append([]byte{'p', 'g', 0, 3, 0x12, 0x34, 0x56, 0x78, 'a', 0, 'b'}, make([]byte, 241)...)
	sum := crc.Sum(want)
	want = append(want, byte(sum>>24), byte(sum>>16), byte(sum>>8), byte(sum))
	p := page{0x12345678, []byte{'a', 0, 'b'}}
	if got := encoded(t, p); !bytes.Equal(got, want) {
		t.Errorf("Encode: % x; want % x", got, want)
	}
	wantDecode(t, "octets written out", want, p)
}

func TestP7_1EncodeRefused(t *testing.T) {
	for _, id := range idsThatMayNotBe() {
		for _, n := range []int{0, 1, 244, 245, 65536} {
			wantNotEncoded(t, id, make([]byte, n), api.ErrRange)
		}
		wantNotEncoded(t, id, nil, api.ErrRange)
	}
	for _, id := range []int{0, 1, largestID} {
		for _, n := range tooLong() {
			wantNotEncoded(t, id, make([]byte, n), api.ErrLong)
		}
	}
}

func TestP7_1Decode(t *testing.T) {
	for _, p := range mayBe() {
		wantDecode(t, "a page", laidOf(p), p)
	}
}

func TestP7_1DecodeCount(t *testing.T) {
	whole := laidOf(page{7, text(244, 7)})
	for n := range 256 {
		wantNotDecoded(t, "too few octets", whole[:n], api.ErrCount)
	}
	wantDecode(t, "256 octets", whole, page{7, text(244, 7)})
	for _, more := range []int{1, 2, 64, 255, 256, 4096} {
		wantNotDecoded(t, "too many octets", append(slices.Clone(whole), make([]byte, more)...), api.ErrCount)
	}
	wantNotDecoded(t, "nil", nil, api.ErrCount)
	wantNotDecoded(t, "no octets", []byte{}, api.ErrCount)
}

func TestP7_1DecodeCorrupt(t *testing.T) {
	whole := laidOf(page{7, text(100, 3)})
	for at := range whole {
		for _, bits := range []byte{1, 2, 0x80, 0xff} {
			wantNotDecoded(t, "another octet", with(whole, at, whole[at]^bits), api.ErrCorrupt)
		}
	}
	turned := slices.Clone(whole)
	slices.Reverse(turned[252:])
	wantNotDecoded(t, "a checksum with its lowest octet first", turned, api.ErrCorrupt)
	wantNotDecoded(t, "256 zeros", make([]byte, 256), api.ErrCorrupt)
}

func TestP7_1DecodeKind(t *testing.T) {
	for at := range 2 {
		for _, to := range []byte{0, 'P', 'G', 0xff} {
			wantNotDecoded(t, "another mark, the sum fits", resealed(with(laidOf(page{7, nil}), at, to)), api.ErrKind)
		}
	}
	swapped := laidOf(page{7, nil})
	swapped[0], swapped[1] = swapped[1], swapped[0]
	wantNotDecoded(t, "gp", resealed(swapped), api.ErrKind)
	wantNotDecoded(t, "zeros, the sum fits", resealed(make([]byte, 256)), api.ErrKind)
}

func TestP7_1DecodeLong(t *testing.T) {
	wantDecode(t, "244 octets told", laid(244, 7, nil), page{7, make([]byte, 244)})
	for _, n := range []uint16{245, 246, 252, 255, 256, 257, 500, 1 << 15, 1<<15 + 244, 65535} {
		wantNotDecoded(t, "too many octets told", laid(n, 7, nil), api.ErrLong)
		wantNotDecoded(t, "too many octets told, and there", laid(n, 7, text(244, 1)), api.ErrLong)
	}
}

func TestP7_1DecodeRange(t *testing.T) {
	for _, id := range []uint32{1 << 31, 1<<31 + 1, 1<<31 + 7, 3 << 30, math.MaxUint32 - 1, math.MaxUint32} {
		wantNotDecoded(t, "an id above the largest", laid(1, id, []byte("x")), api.ErrRange)
	}
}

func TestP7_1DecodeTail(t *testing.T) {
	for _, n := range []int{0, 1, 55, 56, 100, 242, 243} {
		for at := 8 + n; at < 252; at++ {
			for _, to := range []byte{1, 0x80, 0xff} {
				b := resealed(with(laidOf(page{7, text(n, 5)}), at, to))
				wantNotDecoded(t, "an octet behind the data", b, api.ErrTail)
			}
		}
	}
	wantDecode(t, "no octet behind the data", laidOf(page{7, text(244, 5)}), page{7, text(244, 5)})
}

// fault is one thing that may be wrong with an encoded page. Those of a list are laid in the list's order:
// from the one that is told last to the one that is told first.
type fault struct {
	err  api.Errno
	laid func(b []byte) []byte
}

func faults() []fault {
	return []fault{
		{api.ErrTail, func(b []byte) []byte { return resealed(with(b, 251, 1)) }},
		{api.ErrRange, func(b []byte) []byte { return resealed(with(b, 4, 0x80)) }},
		{api.ErrLong, func(b []byte) []byte { return resealed(with(b, 2, 1)) }},
		{api.ErrKind, func(b []byte) []byte { return resealed(with(b, 1, 'G')) }},
		{api.ErrCorrupt, func(b []byte) []byte { return with(b, 255, b[255]^1) }},
		{api.ErrCount, func(b []byte) []byte { return append(b, 0) }},
	}
}

// TestP7_1DecodeOrder: of all sets of faults that one is told which the chapter names first.
func TestP7_1DecodeOrder(t *testing.T) {
	for set := 1; set < 1<<6; set++ {
		b, want := laidOf(page{7, []byte("x")}), api.OK
		for i, f := range faults() {
			if set>>i&1 == 1 {
				b, want = f.laid(b), f.err
			}
		}
		wantNotDecoded(t, "several faults", b, want)
	}
}

// disksThatMayNotBe: each has a page from sector 0 on, as far as it has room.
func disksThatMayNotBe() map[string]disk.State {
	good := func() disk.State {
		return laidOn(zeros(6), 0, laidOf(page{7, []byte("x")}))
	}
	short, long, none, far, below, brief := good(), good(), good(), good(), good(), good()
	short.Sectors[5] = make([]byte, 63)
	long.Sectors[0] = append(long.Sectors[0], 0)
	none.Sectors[1] = nil
	far.Cache = []disk.Write{{Sector: 6, Data: make([]byte, 64)}}
	below.Cache = []disk.Write{{Sector: -1, Data: make([]byte, 64)}}
	brief.Cache = []disk.Write{{Sector: 5, Data: make([]byte, 10)}}
	full := good()
	full.Cache = slices.Repeat([]disk.Write{{Sector: 5, Data: make([]byte, 64)}}, 4097)
	few := zeros(3)
	few.Sectors[0] = nil
	return map[string]disk.State{
		"no disk":                  {},
		"empty lists":              {Sectors: [][]byte{}, Cache: []disk.Write{}},
		"a short sector":           short,
		"a long sector":            long,
		"a sector of nil":          none,
		"a write too far":          far,
		"a write below 0":          below,
		"a short write":            brief,
		"4097 writes":              full,
		"1025 sectors":             zeros(1025),
		"three sectors, one short": few,
	}
}

func TestP7_2DisksErrorFirst(t *testing.T) {
	for what, d := range disksThatMayNotBe() {
		for _, at := range []int{0, 1, -1, 1024, math.MaxInt, math.MinInt} {
			for _, p := range []page{{7, []byte("x")}, {-1, nil}, {7, make([]byte, 245)}} {
				wantNotRead(t, what, d, at, p.id, api.ErrState)
				wantNotWritten(t, what, d, at, p, api.ErrState)
			}
		}
	}
}

// fullCache answers d with as many writes in its cache as leave room for so many.
func fullCache(d disk.State, room int) disk.State {
	w := disk.Write{Sector: len(d.Sectors) - 1, Data: text(64, 9)}
	d.Cache = slices.Repeat([]disk.Write{w}, api.MaxRecords-room)
	return d
}

func TestP7_2Places(t *testing.T) {
	refused := []page{{-1, nil}, {1 << 31, make([]byte, 245)}, {7, make([]byte, 245)}, {7, []byte("x")}}
	for _, n := range []int{1, 2, 3, 4, 5, 8, 1023, 1024} {
		d := zeros(n)
		for _, at := range []int{-1, -4, n - 3, n - 2, n - 1, n, n + 1, 1024, 1 << 40, math.MaxInt, math.MaxInt - 3, math.MinInt, math.MinInt + 3} {
			if at >= 0 && at+4 > 0 && at+4 <= n {
				continue
			}
			for _, p := range refused {
				wantNotRead(t, "zeros", d, at, p.id, api.ErrSector)
				wantNotWritten(t, "zeros", d, at, p, api.ErrSector)
				wantNotWritten(t, "a full cache", fullCache(d, 0), at, p, api.ErrSector)
			}
		}
		for _, at := range []int{0, 1, n - 5, n - 4} {
			if at >= 0 && at+4 <= n {
				wantRead(t, "a page", written(t, d, at, page{7, []byte("x")}), at, page{7, []byte("x")})
			}
		}
	}
}

func TestP7_2WriteRefused(t *testing.T) {
	for _, d := range []disk.State{zeros(4), fullCache(zeros(5), 0), fullCache(zeros(5), 3)} {
		for _, id := range idsThatMayNotBe() {
			wantNotWritten(t, "a disk", d, 0, page{id, nil}, api.ErrRange)
			wantNotWritten(t, "a disk", d, 0, page{id, make([]byte, 245)}, api.ErrRange)
		}
		for _, n := range tooLong() {
			wantNotWritten(t, "a disk", d, 0, page{7, make([]byte, n)}, api.ErrLong)
		}
	}
}

// TestP7_2Write: four writes more, the lowest sector's first, and all else as it was.
func TestP7_2Write(t *testing.T) {
	for _, p := range mayBe() {
		for at := range 3 {
			d := laidOn(zeros(6), 1, text(256, 4))
			d.Cache = []disk.Write{{Sector: at, Data: text(64, 1)}, {Sector: 5, Data: text(64, 2)}}
			want := d
			for i := range 4 {
				want.Cache = append(want.Cache, disk.Write{Sector: at + i, Data: laidOf(p)[64*i : 64*i+64]})
			}
			if got := written(t, d, at, p); !same(got, want) {
				t.Errorf("Write of %d, %d octets at %d: another state", p.id, len(p.data), at)
			}
		}
	}
}

func TestP7_2WriteWithoutRoom(t *testing.T) {
	p := page{7, []byte("x")}
	for room := range 4 {
		d := fullCache(zeros(5), room)
		wantNotWritten(t, "a cache without room", d, 0, p, api.ErrFull)
		if len(d.Cache) != api.MaxRecords-room {
			t.Errorf("Write has put %d sectors of a page that it refused", len(d.Cache)-api.MaxRecords+room)
		}
		wantNotRead(t, "a refused page", d, 0, 7, api.ErrCorrupt)
	}
	for _, room := range []int{4, 5} {
		d := written(t, fullCache(zeros(5), room), 0, p)
		if len(d.Cache) != api.MaxRecords-room+4 {
			t.Errorf("Write with room for %d: %d writes", room, len(d.Cache))
		}
		wantRead(t, "a cache with room", d, 0, p)
	}
}

func TestP7_2Read(t *testing.T) {
	for _, p := range mayBe() {
		for at := range 3 {
			wantRead(t, "sectors", laidOn(zeros(6), at, laidOf(p)), at, p)
		}
	}
	wantNotRead(t, "zeros", zeros(4), 0, 0, api.ErrCorrupt)
}

// TestP7_2ReadCorrupt: whichever error Decode tells, Read's is one.
func TestP7_2ReadCorrupt(t *testing.T) {
	for _, f := range faults()[:5] {
		d := laidOn(zeros(5), 1, f.laid(laidOf(page{7, []byte("x")})))
		for _, id := range []int{0, 7, -1, 1 << 31, 1<<31 + 7} {
			wantNotRead(t, "a page with a fault", d, 1, id, api.ErrCorrupt)
		}
	}
}

// TestP7_2ReadSeesTheCache: sectors are read as disk.Get tells them, the latest write ahead of the disk.
func TestP7_2ReadSeesTheCache(t *testing.T) {
	first, second, third := page{1, []byte("first")}, page{1, text(244, 2)}, page{2, []byte("third")}
	d := flushed(t, written(t, zeros(8), 2, first))
	d = written(t, d, 2, second)
	wantRead(t, "a page over another in the cache", d, 2, second)
	d = written(t, d, 2, third)
	wantRead(t, "a page over two others", d, 2, third)
	wantNotRead(t, "a page over two others", d, 2, 1, api.ErrCorrupt)
	for i := range 4 {
		over, err := disk.Put(d, 2+i, text(64, 3))
		if err != api.OK {
			t.Fatal("Put:", err)
		}
		wantNotRead(t, "a page with a sector written over", over, 2, 2, api.ErrCorrupt)
	}
	lost, err := disk.Crash(d, nil, 0, 0)
	if err != api.OK {
		t.Fatal("Crash:", err)
	}
	wantRead(t, "what was flushed, behind a crash", lost, 2, first)
}

func TestP7_3WrittenIsRead(t *testing.T) {
	for _, p := range mayBe() {
		d := written(t, zeros(7), 3, p)
		for _, d := range []disk.State{d, flushed(t, d)} {
			wantRead(t, "what was written", d, 3, p)
			others := append(idsThatMayNotBe(), p.id+1, p.id-1, p.id^1, p.id^1<<8, p.id^1<<30, p.id+1<<32, -p.id-1)
			for _, id := range others {
				wantNotRead(t, "what was written, by another id", d, 3, id, api.ErrCorrupt)
			}
			for _, at := range []int{0, 1, 2} {
				wantNotRead(t, "what was written, elsewhere", d, at, p.id, api.ErrCorrupt)
			}
		}
	}
}

// TestP7_3Beside: pages beside one another leave each other as they are.
func TestP7_3Beside(t *testing.T) {
	l := []page{{0, nil}, {1, text(244, 1)}, {2, []byte("two")}, {largestID, make([]byte, 244)}}
	d := zeros(17)
	for _, order := range [][]int{{0, 1, 2, 3}, {3, 2, 1, 0}, {2, 0, 3, 1}} {
		l[0], l[3] = l[3], l[0]
		for _, i := range order {
			d = written(t, d, 4*i, l[i])
		}
		for i, p := range l {
			wantRead(t, "pages side by side", d, 4*i, p)
			wantNotRead(t, "pages side by side, by the next one's id", d, 4*i, l[(i+1)%4].id, api.ErrCorrupt)
		}
		d = flushed(t, d)
	}
	d = flushed(t, written(t, d, 6, page{9, []byte("across two")}))
	wantRead(t, "a page across two", d, 6, page{9, []byte("across two")})
	wantNotRead(t, "the first of the two", d, 4, l[1].id, api.ErrCorrupt)
	wantNotRead(t, "the second of the two", d, 8, l[2].id, api.ErrCorrupt)
	wantRead(t, "the one behind both", d, 12, l[3])
}

// pairs are pages, each with one that is written over it: alike in all sectors, in none, and in some.
func pairs() [][2]page {
	same := text(200, 1)
	tail := append(text(199, 1), 0x77)
	head := append([]byte{0x77}, text(200, 1)[1:]...)
	return [][2]page{
		{{7, nil}, {7, []byte("x")}},
		{{7, text(244, 1)}, {7, text(244, 2)}},
		{{7, text(244, 1)}, {7, nil}},
		{{7, same}, {7, same}},
		{{7, same}, {7, tail}},
		{{7, same}, {7, head}},
		{{7, same}, {8, same}},
		{{0, nil}, {largestID, text(100, 4)}},
	}
}

// oldOrNew tells whether what Read answers by either id is the old page, the new one, or ErrCorrupt, and whether
// the octets that stand there are what it hangs on.
func oldOrNew(t *testing.T, what string, d disk.State, at int, pair [2]page) {
	t.Helper()
	stand := slices.Concat(d.Sectors[at : at+4]...)
	for _, id := range []int{pair[0].id, pair[1].id} {
		data, err := pages.Read(d, at, id)
		wantErr, want := api.ErrCorrupt, []byte(nil)
		for _, p := range pair {
			if p.id == id && bytes.Equal(stand, laidOf(p)) {
				wantErr, want = api.OK, p.data
			}
		}
		if err != wantErr || !bytes.Equal(data, want) {
			t.Fatalf("Read of %s by %d: % x, %d; want % x, %d", what, id, data, err, want, wantErr)
		}
	}
}

// TestP7_4OldOrNew: each set of the four sectors kept, each of them torn, behind each of its octets.
func TestP7_4OldOrNew(t *testing.T) {
	for _, pair := range pairs() {
		d := flushed(t, written(t, zeros(6), 1, pair[0]))
		d = written(t, d, 1, pair[1])
		for mask := range 16 {
			keep := []bool{mask&1 != 0, mask&2 != 0, mask&4 != 0, mask&8 != 0}
			for torn := -1; torn < 4; torn++ {
				for cut := range 65 {
					next, err := disk.Crash(d, keep, torn, cut)
					if err != api.OK {
						t.Fatal("Crash:", err)
					}
					oldOrNew(t, "a page over another behind a crash", next, 1, pair)
				}
			}
		}
	}
}

// TestP7_4Ends: a crash that keeps nothing leaves the old page, one that keeps all has the new one.
func TestP7_4Ends(t *testing.T) {
	for _, pair := range pairs() {
		d := written(t, flushed(t, written(t, zeros(4), 0, pair[0])), 0, pair[1])
		none, _ := disk.Crash(d, []bool{false, false, false, false}, -1, 0)
		wantRead(t, "the old page", none, 0, pair[0])
		all, _ := disk.Crash(d, []bool{true, true, true, true}, -1, 0)
		wantRead(t, "the new page", all, 0, pair[1])
		half, _ := disk.Crash(d, []bool{true, true}, -1, 0)
		if !bytes.Equal(laidOf(pair[0])[:128], laidOf(pair[1])[:128]) && !bytes.Equal(laidOf(pair[0])[128:], laidOf(pair[1])[128:]) {
			wantNotRead(t, "half of a page", half, 0, pair[0].id, api.ErrCorrupt)
			wantNotRead(t, "half of a page", half, 0, pair[1].id, api.ErrCorrupt)
		}
	}
}

func TestP7_5Rot(t *testing.T) {
	for _, p := range []page{{0, nil}, {7, []byte("x")}, {largestID, text(244, 8)}, {256, make([]byte, 100)}} {
		d := flushed(t, written(t, zeros(6), 1, p))
		for bit := range 8 * 256 {
			rotten, err := disk.Rot(d, 1+bit/512, bit/8%64, 1<<(bit%8))
			if err != api.OK {
				t.Fatal("Rot:", err)
			}
			wantNotRead(t, "one bit rotten", rotten, 1, p.id, api.ErrCorrupt)
			for _, id := range []int{0, p.id ^ 1, p.id ^ 1<<30} {
				wantNotRead(t, "one bit rotten, by another id", rotten, 1, id, api.ErrCorrupt)
			}
		}
		for _, sector := range []int{0, 5} {
			beside, _ := disk.Rot(d, sector, 63, 0xff)
			wantRead(t, "a sector beside it rotten", beside, 1, p)
		}
		unturned, _ := disk.Rot(d, 1, 0, 0)
		wantRead(t, "no bit rotten", unturned, 1, p)
		over := written(t, d, 1, p)
		hidden, _ := disk.Rot(over, 2, 3, 0xff)
		wantRead(t, "rot below a cache", hidden, 1, p)
	}
}

// sampleDisk has a page on it, another over it in its cache, and a write beside them.
func sampleDisk(t *testing.T) disk.State {
	t.Helper()
	d := flushed(t, written(t, zeros(6), 1, page{7, []byte("old")}))
	d = written(t, d, 1, page{7, []byte("new")})
	next, err := disk.Put(d, 5, []byte("beside"))
	if err != api.OK {
		t.Fatal("Put:", err)
	}
	return next
}

func TestNilAndEmpty(t *testing.T) {
	if !bytes.Equal(encoded(t, page{7, nil}), encoded(t, page{7, []byte{}})) {
		t.Errorf("Encode: nil and empty data are not one")
	}
	d, e := zeros(4), zeros(4)
	e.Cache = []disk.Write{}
	if !same(written(t, d, 0, page{7, nil}), written(t, e, 0, page{7, []byte{}})) {
		t.Errorf("Write: nil and empty lists are not one")
	}
	wantNotRead(t, "an empty cache", e, 0, 7, api.ErrCorrupt)
}

// TestSameAgain: what a call answers hangs on its arguments alone, whoever else calls.
func TestSameAgain(t *testing.T) {
	d := sampleDisk(t)
	l := mayBe()
	var wait sync.WaitGroup
	for range 8 {
		wait.Go(func() {
			for _, p := range l {
				b, err := pages.Encode(p.id, p.data)
				if err != api.OK || !bytes.Equal(b, laidOf(p)) {
					t.Errorf("Encode of %d beside others: %d", p.id, err)
				}
				wantDecode(t, "octets beside others", b, p)
				next, err := pages.Write(d, 2, p.id, p.data)
				if err != api.OK {
					t.Errorf("Write of %d beside others: %d", p.id, err)
				}
				wantRead(t, "a page beside others", next, 2, p)
			}
			wantRead(t, "a disk beside others", d, 1, page{7, []byte("new")})
		})
	}
	wait.Wait()
}
