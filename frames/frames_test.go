package frames_test

import (
	"bytes"
	"hash/crc32"
	"slices"
	"testing"

	"transept/api"
	"transept/frames"
)

// sum is CRC-32C by another hand than the program's.
func sum(b []byte) uint32 {
	return crc32.Checksum(b, crc32.MakeTable(crc32.Castagnoli))
}

// summed answers b with its checksum behind it.
func summed(b []byte) []byte {
	c := sum(b)
	return append(slices.Clone(b), byte(c>>24), byte(c>>16), byte(c>>8), byte(c))
}

// framed lays a frame out as the chapter's words say, whatever length it is to tell.
func framed(kind byte, length int, data []byte) []byte {
	return summed(append([]byte{0xa7, kind, byte(length >> 8), byte(length)}, data...))
}

// text answers n octets without a plain order; another seed makes another text.
func text(n int, seed uint32) []byte {
	b := make([]byte, n)
	state := seed*2654435761 + 12345
	for i := range b {
		state = state*1664525 + 1013904223
		b[i] = byte(state >> 24)
	}
	return b
}

func sealed(t *testing.T, f frames.Frame) []byte {
	t.Helper()
	b, err := frames.Seal(f)
	if err != api.OK {
		t.Fatalf("Seal of Kind %d, %d octets: %d", f.Kind, len(f.Data), err)
	}
	return b
}

func same(f, g frames.Frame) bool {
	return f.Kind == g.Kind && bytes.Equal(f.Data, g.Data)
}

// samples are frames of many lengths and kinds, with nothing in them, with a frame in them, and the greatest.
func samples() []frames.Frame {
	return []frames.Frame{
		{},
		{Kind: 255, Data: []byte{}},
		{Kind: 1, Data: []byte("a")},
		{Kind: 0xa7, Data: []byte{0xa7}},
		{Kind: 2, Data: []byte{0, 0}},
		{Kind: 7, Data: framed(1, 1, []byte("a"))},
		{Kind: 3, Data: bytes.Repeat([]byte{0xff}, 8)},
		{Kind: 4, Data: text(255, 1)},
		{Kind: 5, Data: text(256, 2)},
		{Kind: 6, Data: text(257, 3)},
		{Kind: 128, Data: text(4095, 4)},
		{Kind: 127, Data: text(4096, 5)},
	}
}

// laid answers frames one behind the other, and where each of them ends; the first end is 0.
func laid(t *testing.T, list []frames.Frame) ([]byte, []int) {
	t.Helper()
	var all []byte
	ends := []int{0}
	for _, f := range list {
		all = append(all, sealed(t, f)...)
		ends = append(ends, len(all))
	}
	return all, ends
}

// wholeUpTo answers how many frames end at a place or ahead of it.
func wholeUpTo(ends []int, at int) int {
	n := 0
	for n+1 < len(ends) && ends[n+1] <= at {
		n++
	}
	return n
}

// short are frames that are soon gone through octet by octet.
func short() []frames.Frame {
	return []frames.Frame{
		{Kind: 1, Data: []byte("a")},
		{},
		{Kind: 0xa7, Data: []byte{0xa7, 0xa7, 0, 0, 0}},
		{Kind: 9, Data: framed(1, 2, []byte("bc"))},
		{Kind: 255},
		{Kind: 2, Data: text(300, 6)},
	}
}

func checkScan(t *testing.T, what string, b []byte, want []frames.Frame, taken int) {
	t.Helper()
	got, n := frames.Scan(b)
	if !slices.EqualFunc(got, want, same) || n != taken {
		t.Errorf("Scan of %s: %d frames, %d octets; want %d, %d", what, len(got), n, len(want), taken)
	}
}

func TestP3_1SealExample(t *testing.T) {
	b, err := frames.Seal(frames.Frame{Kind: 1, Data: []byte("a")})
	if err != api.OK || len(b) != 9 || !bytes.Equal(b[:5], []byte{0xa7, 1, 0, 1, 'a'}) {
		t.Fatalf("Seal: % x, %d", b, err)
	}
	if want := framed(1, 1, []byte("a")); !bytes.Equal(b, want) {
		t.Errorf("Seal: % x; want % x", b, want)
	}
}

func TestP3_1SealNothing(t *testing.T) {
	for _, data := range [][]byte{nil, {}} {
		b, err := frames.Seal(frames.Frame{Kind: 5, Data: data})
		if want := framed(5, 0, nil); !bytes.Equal(b, want) || len(b) != 8 || err != api.OK {
			t.Errorf("Seal of nothing: % x, %d; want % x", b, err, want)
		}
	}
}

// TestP3_1SealLengths: each length about the edges, the last one that may be and those beyond it.
func TestP3_1SealLengths(t *testing.T) {
	for _, n := range []int{0, 1, 2, 255, 256, 257, 511, 512, 4095, 4096} {
		data := text(n, uint32(n))
		b, err := frames.Seal(frames.Frame{Kind: byte(n + 3), Data: data})
		if want := framed(byte(n+3), n, data); !bytes.Equal(b, want) || err != api.OK {
			t.Errorf("Seal of %d octets: %d octets, %d; want %d", n, len(b), err, len(want))
		}
	}
	for _, n := range []int{4097, 4098, 8192, 65535, 65536, 65537, 1 << 20} {
		if b, err := frames.Seal(frames.Frame{Kind: 1, Data: text(n, 1)}); len(b) != 0 || err != api.ErrLong {
			t.Errorf("Seal of %d octets: %d octets, %d; want ErrLong", n, len(b), err)
		}
	}
}

func TestP3_1SealKinds(t *testing.T) {
	for kind := range 256 {
		b, err := frames.Seal(frames.Frame{Kind: byte(kind), Data: []byte("xy")})
		if want := framed(byte(kind), 2, []byte("xy")); !bytes.Equal(b, want) || err != api.OK {
			t.Errorf("Seal of Kind %d: % x, %d; want % x", kind, b, err, want)
		}
	}
}

// checkRefused: beside the error nothing else is told.
func checkRefused(t *testing.T, what string, b []byte, want api.Errno) {
	t.Helper()
	f, n, err := frames.Open(b)
	if f.Kind != 0 || len(f.Data) != 0 || n != 0 || err != want {
		t.Errorf("Open of %s: Kind %d, %d octets, took %d, %d; want %d alone", what, f.Kind, len(f.Data), n, err, want)
	}
}

// TestP3_2OpenShort: fewer than 8 octets, whatever they are.
func TestP3_2OpenShort(t *testing.T) {
	checkRefused(t, "nil", nil, api.ErrShort)
	checkRefused(t, "nothing", []byte{}, api.ErrShort)
	for n := 1; n < 8; n++ {
		checkRefused(t, "a frame's beginning", framed(1, 0, nil)[:n], api.ErrShort)
		checkRefused(t, "what is no frame's beginning", bytes.Repeat([]byte{0}, n), api.ErrShort)
		checkRefused(t, "a beginning that tells too many", []byte{0xa7, 1, 0xff, 0xff, 0, 0, 0, 0}[:n], api.ErrShort)
	}
}

// TestP3_2OpenKind: each other first octet, whatever else is wrong.
func TestP3_2OpenKind(t *testing.T) {
	for first := range 256 {
		if first == 0xa7 {
			continue
		}
		head := func(length int, data string) []byte {
			b := framed(1, length, []byte(data))
			b[0] = byte(first)
			return b
		}
		checkRefused(t, "another first octet, summed", summed(head(1, "a")[:5]), api.ErrKind)
		checkRefused(t, "another first octet", head(1, "a"), api.ErrKind)
		checkRefused(t, "another first octet, too many told", head(4097, "a"), api.ErrKind)
		checkRefused(t, "another first octet, fewer than told", head(2, "a"), api.ErrKind)
	}
}

// TestP3_2OpenLong: more than 4096 told, be they there or not, with the checksum that fits or another.
func TestP3_2OpenLong(t *testing.T) {
	for _, n := range []int{4097, 4098, 4096 + 256, 8192, 0x8000, 0xffff} {
		b := framed(1, n, text(n, 7))
		checkRefused(t, "too many that are there", b, api.ErrLong)
		checkRefused(t, "too many that are not all there", b[:len(b)-1], api.ErrLong)
		checkRefused(t, "too many of which none is there", b[:8], api.ErrLong)
		b[len(b)-1] ^= 1
		checkRefused(t, "too many with another checksum", b, api.ErrLong)
	}
}

// TestP3_2OpenFewer: fewer than told, up to the last octet of the checksum, which may not fit either.
func TestP3_2OpenFewer(t *testing.T) {
	for _, n := range []int{1, 2, 255, 256, 300} {
		b := framed(1, n, text(n, 8))
		for cut := 8; cut < len(b); cut++ {
			checkRefused(t, "a frame that is cut off", b[:cut], api.ErrShort)
			checkRefused(t, "a shorter frame that tells more", summed(b[:cut-4]), api.ErrShort)
		}
	}
	b := framed(1, 4096, text(4096, 9))
	checkRefused(t, "the longest, one missing", b[:len(b)-1], api.ErrShort)
	checkRefused(t, "the longest, of which none is there", b[:8], api.ErrShort)
}

// TestP3_2OpenCorrupt: another checksum, by each of its octets and turned about.
func TestP3_2OpenCorrupt(t *testing.T) {
	for _, f := range samples() {
		b := sealed(t, f)
		for at := len(b) - 4; at < len(b); at++ {
			for _, by := range []byte{1, 0x80, 0xff} {
				other := slices.Clone(b)
				other[at] ^= by
				checkRefused(t, "another checksum", other, api.ErrCorrupt)
				checkRefused(t, "another checksum, and more behind it", append(other, b...), api.ErrCorrupt)
			}
		}
		turned := slices.Clone(b)
		slices.Reverse(turned[len(b)-4:])
		checkRefused(t, "the checksum with the lowest octet first", turned, api.ErrCorrupt)
	}
}

// TestP3_2OpenLengthOrder: the highest octet of the length comes first.
func TestP3_2OpenLengthOrder(t *testing.T) {
	data := text(258, 10)
	f, n, err := frames.Open(framed(1, 258, data))
	if !bytes.Equal(f.Data, data) || n != 266 || err != api.OK {
		t.Errorf("Open of 258 octets: %d, took %d, %d", len(f.Data), n, err)
	}
	checkRefused(t, "a length told with its lowest octet first", framed(1, 0x0100, []byte("a")), api.ErrShort)
}

// TestP3_2OpenMoreBehind: what stands behind a frame is not looked at, and not taken.
func TestP3_2OpenMoreBehind(t *testing.T) {
	for _, f := range samples() {
		b := sealed(t, f)
		for _, behind := range [][]byte{nil, {0}, {0xa7}, text(1, 11), b, bytes.Repeat([]byte{0xff}, 5000)} {
			got, n, err := frames.Open(slices.Concat(b, behind))
			if !same(got, f) || n != len(b) || err != api.OK {
				t.Errorf("Open of a frame of %d octets, %d behind it: Kind %d, %d octets, took %d, %d",
					len(f.Data), len(behind), got.Kind, len(got.Data), n, err)
			}
		}
	}
}

func TestP3_2ScanNothing(t *testing.T) {
	checkScan(t, "nil", nil, nil, 0)
	checkScan(t, "nothing", []byte{}, nil, 0)
	checkScan(t, "seven octets", framed(1, 0, nil)[:7], nil, 0)
	checkScan(t, "what is no frame", text(1000, 12), nil, 0)
	checkScan(t, "octets of the first's kind", bytes.Repeat([]byte{0xa7}, 1000), nil, 0)
}

func TestP3_2ScanOne(t *testing.T) {
	for _, f := range samples() {
		b := sealed(t, f)
		checkScan(t, "one frame", b, []frames.Frame{f}, len(b))
	}
}

// TestP3_2ScanStops: at the first that is no frame, for each reason; what is a frame again behind it is not found.
func TestP3_2ScanStops(t *testing.T) {
	list := short()
	all, _ := laid(t, list)
	corrupt := framed(1, 1, []byte("a"))
	corrupt[4] ^= 1
	for _, c := range []struct {
		what   string
		behind []byte
	}{
		{"an octet", []byte{0}},
		{"another first octet", summed([]byte{0xa6, 1, 0, 0})},
		{"too many told", framed(1, 4097, text(4097, 13))},
		{"another checksum", corrupt},
	} {
		checkScan(t, "frames and "+c.what, slices.Concat(all, c.behind), list, len(all))
		checkScan(t, "frames, "+c.what+" and frames", slices.Concat(all, c.behind, all), list, len(all))
		checkScan(t, c.what+" and frames", slices.Concat(c.behind, all), nil, 0)
	}
}

// TestP3_2ScanIsOpen: Scan is Open again and again, of texts with an octet changed, too.
func TestP3_2ScanIsOpen(t *testing.T) {
	all, _ := laid(t, short())
	for at := range all {
		for _, by := range []byte{0, 1, 0x10, 0xff} {
			b := slices.Clone(all)
			b[at] ^= by
			var want []frames.Frame
			end := 0
			for {
				f, n, err := frames.Open(b[end:])
				if err != api.OK {
					break
				}
				want = append(want, f)
				end += n
			}
			checkScan(t, "frames with an octet changed", b, want, end)
		}
	}
}

func TestP3_3OpenOfSeal(t *testing.T) {
	list := samples()
	for kind := range 256 {
		list = append(list, frames.Frame{Kind: byte(kind), Data: text(kind, uint32(kind))})
	}
	for n := range 4097 {
		list = append(list, frames.Frame{Kind: byte(n), Data: text(n, 14)})
	}
	for _, f := range list {
		got, n, err := frames.Open(sealed(t, f))
		if !same(got, f) || n != 8+len(f.Data) || err != api.OK {
			t.Fatalf("Open of Seal of Kind %d, %d octets: Kind %d, %d octets, took %d, %d",
				f.Kind, len(f.Data), got.Kind, len(got.Data), n, err)
		}
	}
}

func TestP3_3ScanOfLaid(t *testing.T) {
	list := samples()
	for range 3 {
		for n := range len(list) + 1 {
			all, _ := laid(t, list[:n])
			checkScan(t, "frames one behind the other", all, list[:n], len(all))
		}
		slices.Reverse(list)
		list = append(list, list...)
	}
}

// TestP3_3ScanMany: so many that what is answered must be made room for again and again.
func TestP3_3ScanMany(t *testing.T) {
	const many = 50000
	var all []byte
	for i := range many {
		all = append(all, sealed(t, frames.Frame{Kind: byte(i), Data: []byte{byte(i >> 8), byte(i)}[:i%3]})...)
	}
	got, n := frames.Scan(all)
	if len(got) != many || n != len(all) {
		t.Fatalf("Scan of %d frames: %d, %d octets of %d", many, len(got), n, len(all))
	}
	for i, f := range got {
		if want := []byte{byte(i >> 8), byte(i)}[:i%3]; f.Kind != byte(i) || !bytes.Equal(f.Data, want) {
			t.Fatalf("frame %d: Kind %d, % x", i, f.Kind, f.Data)
		}
	}
}

func TestP3_4CutOffAnywhere(t *testing.T) {
	list := short()
	all, ends := laid(t, list)
	for cut := range len(all) + 1 {
		k := wholeUpTo(ends, cut)
		checkScan(t, "frames that are cut off", all[:cut], list[:k], ends[k])
	}
}

// TestP3_4WrittenOverAnywhere: all from a place on is written over, whatever it is by.
func TestP3_4WrittenOverAnywhere(t *testing.T) {
	list := short()
	all, ends := laid(t, list)
	for at := range all {
		k := wholeUpTo(ends, at)
		rest := len(all) - at
		for i, over := range [][]byte{
			make([]byte, rest),
			bytes.Repeat([]byte{0xff}, rest),
			bytes.Repeat([]byte{0xa7}, rest),
			text(rest, uint32(at)),
			bytes.Repeat([]byte{0xa7, 1, 0, 0}, rest),
		} {
			if all[at] == over[0] {
				over[0] ^= 0x55
			}
			checkScan(t, "frames written over", slices.Concat(all[:at], over), list[:k], ends[k])
			if t.Failed() {
				t.Fatalf("written over from %d on in way %d", at, i)
			}
		}
	}
}

// TestP3_4FramesWrittenOver: other frames from a place on are scanned if they begin where one ended, else not.
func TestP3_4FramesWrittenOver(t *testing.T) {
	list := short()
	all, ends := laid(t, list)
	others := []frames.Frame{{Kind: 77, Data: []byte("other")}, {Kind: 78}}
	over, _ := laid(t, others)
	for at := 1; at < len(all); at++ {
		k := wholeUpTo(ends, at)
		b := slices.Concat(all[:at], over)
		if ends[k] == at {
			checkScan(t, "frames and others", b, slices.Concat(list[:k], others), len(b))
		} else {
			checkScan(t, "a frame cut off by others", b, list[:k], ends[k])
		}
	}
}

// TestP3_4OneOctetWrittenOver: one octet of a frame that is not of its length ends the scan just ahead of that frame;
// one of its length may make it another, but the frames ahead of it are there.
func TestP3_4OneOctetWrittenOver(t *testing.T) {
	list := short()
	all, ends := laid(t, list)
	for at := range all {
		k := wholeUpTo(ends, at)
		inFrame := at - ends[k]
		for by := 1; by < 256; by++ {
			b := slices.Clone(all)
			b[at] ^= byte(by)
			if inFrame != 2 && inFrame != 3 {
				checkScan(t, "frames with one octet written over", b, list[:k], ends[k])
				continue
			}
			got, n := frames.Scan(b)
			if len(got) < k || !slices.EqualFunc(got[:k], list[:k], same) || n < ends[k] {
				t.Errorf("Scan with the length at %d changed by %02x: %d frames, %d octets", at, by, len(got), n)
			}
		}
	}
}

// TestP3_5OneBitTurned: each bit but those of the length, of the frame alone and with more behind it.
func TestP3_5OneBitTurned(t *testing.T) {
	for _, f := range samples() {
		b := sealed(t, f)
		behind := slices.Concat(b, b)
		for bit := range 8 * len(b) {
			at := bit / 8
			if at == 2 || at == 3 {
				continue
			}
			want := api.ErrCorrupt
			if at == 0 {
				want = api.ErrKind
			}
			b[at] ^= 1 << (bit % 8)
			behind[at] ^= 1 << (bit % 8)
			checkRefused(t, "a frame with a bit turned", b, want)
			if len(b) < 300 {
				checkRefused(t, "a frame with a bit turned and another", behind, want)
				checkScan(t, "a frame with a bit turned", behind, nil, 0)
			}
			b[at] ^= 1 << (bit % 8)
			behind[at] ^= 1 << (bit % 8)
			if t.Failed() {
				t.Fatalf("bit %d of a frame of %d octets", bit, len(f.Data))
			}
		}
	}
}

// TestP3_5LengthTurned: a bit of the length makes a frame of another length, told by what that one lacks;
// if that one is whole, it is a frame.
func TestP3_5LengthTurned(t *testing.T) {
	for _, f := range samples() {
		b := sealed(t, f)
		for bit := range 16 {
			length := len(f.Data) ^ 1<<bit
			b[2], b[3] = byte(length>>8), byte(length)
			want := api.ErrCorrupt
			if length > 4096 {
				want = api.ErrLong
			} else if length > len(f.Data) {
				want = api.ErrShort
			}
			checkRefused(t, "a frame with a bit of its length turned", b, want)
		}
	}
	inner := framed(1, 1, []byte("a"))
	outer := sealed(t, frames.Frame{Kind: 1, Data: inner[4:]})
	outer[3] ^= 4
	if f, n, err := frames.Open(outer); !same(f, frames.Frame{Kind: 1, Data: []byte("a")}) || n != 9 || err != api.OK {
		t.Errorf("Open of a shorter frame in a longer one: Kind %d, % x, %d, %d", f.Kind, f.Data, n, err)
	}
}

// withRoom answers b with room behind it, so that a call that appends to what it was given would be seen.
func withRoom(b []byte) (list []byte, whole []byte) {
	whole = append(slices.Clone(b), 0x11, 0x22, 0x33, 0x44, 0x55)
	return whole[:len(b)], whole
}

// flood overwrites a list and all the room that it has.
func flood(b []byte) {
	b = b[:cap(b)]
	for i := range b {
		b[i] ^= 0xff
	}
}

// TestP3_6ArgumentsStay: no call changes what it is given, nor what lies behind it.
func TestP3_6ArgumentsStay(t *testing.T) {
	for _, f := range append(samples(), frames.Frame{Kind: 1, Data: text(4097, 15)}) {
		list, whole := withRoom(f.Data)
		before := slices.Clone(whole)
		frames.Seal(frames.Frame{Kind: f.Kind, Data: list})
		if !bytes.Equal(whole, before) {
			t.Errorf("Seal changed its argument of %d octets", len(f.Data))
		}
	}
	all, _ := laid(t, short())
	for cut := range len(all) + 1 {
		list, whole := withRoom(all[:cut])
		before := slices.Clone(whole)
		frames.Open(list)
		frames.Scan(list)
		if !bytes.Equal(whole, before) {
			t.Errorf("an argument of %d octets was changed", cut)
		}
	}
}

func TestP3_6SealIsNew(t *testing.T) {
	for _, f := range samples() {
		list, whole := withRoom(f.Data)
		before := slices.Clone(whole)
		first := sealed(t, frames.Frame{Kind: f.Kind, Data: list})
		second := sealed(t, frames.Frame{Kind: f.Kind, Data: list})
		want := slices.Clone(second)
		flood(first)
		if !bytes.Equal(whole, before) || !bytes.Equal(second, want) {
			t.Errorf("Seal of %d octets shares memory", len(f.Data))
		}
		flood(list)
		if !bytes.Equal(second, want) {
			t.Errorf("Seal of %d octets hangs on its argument", len(f.Data))
		}
	}
}

func TestP3_6OpenIsNew(t *testing.T) {
	for _, f := range samples() {
		list, whole := withRoom(sealed(t, f))
		before := slices.Clone(whole)
		first, _, _ := frames.Open(list)
		second, _, _ := frames.Open(list)
		flood(first.Data)
		if !bytes.Equal(whole, before) || !same(second, f) {
			t.Errorf("Open of a frame of %d octets shares memory", len(f.Data))
		}
		flood(list)
		if !same(second, f) {
			t.Errorf("Open of a frame of %d octets hangs on its argument", len(f.Data))
		}
	}
}

// TestP3_6ScanIsNew: a frame that is overwritten, with all its room, leaves the argument, every other frame
// and another answer as they were; so does the list of the frames.
func TestP3_6ScanIsNew(t *testing.T) {
	list := short()
	all, _ := laid(t, list)
	for i := range list {
		arg, whole := withRoom(all)
		before := slices.Clone(whole)
		first, _ := frames.Scan(arg)
		second, _ := frames.Scan(arg)
		flood(first[i].Data)
		for j, f := range first {
			if j != i && !same(f, list[j]) {
				t.Errorf("Scan: frames %d and %d share memory", i, j)
			}
		}
		if !bytes.Equal(whole, before) {
			t.Errorf("Scan: frame %d shares memory with the argument", i)
		}
		clear(first[:cap(first)])
		flood(arg)
		if !slices.EqualFunc(second, list, same) {
			t.Errorf("Scan: an answer hangs on the argument or on another answer")
		}
	}
}

// TestP3_6Capacity: what stands behind an argument's end is not there for any call.
func TestP3_6Capacity(t *testing.T) {
	b := sealed(t, frames.Frame{Kind: 1, Data: []byte("abcdefgh")})
	for n := range b {
		checkRefused(t, "a frame that goes on in the room behind", b[:n], api.ErrShort)
		checkScan(t, "a frame that goes on in the room behind", b[:n], nil, 0)
	}
	room := text(5000, 16)
	if got, want := sealed(t, frames.Frame{Kind: 2, Data: room[:10]}), framed(2, 10, room[:10:10]); !bytes.Equal(got, want) {
		t.Errorf("Seal with room behind: % x; want % x", got, want)
	}
}

// byWords opens as the chapter says it, one error after the other.
func byWords(b []byte) (frames.Frame, int, api.Errno) {
	if len(b) < 8 {
		return frames.Frame{}, 0, api.ErrShort
	}
	told := 256*int(b[2]) + int(b[3])
	switch {
	case b[0] != 0xa7:
		return frames.Frame{}, 0, api.ErrKind
	case told > 4096:
		return frames.Frame{}, 0, api.ErrLong
	case len(b) < told+8:
		return frames.Frame{}, 0, api.ErrShort
	case !bytes.Equal(summed(b[:4+told]), b[:8+told]):
		return frames.Frame{}, 0, api.ErrCorrupt
	}
	return frames.Frame{Kind: b[1], Data: b[4 : 4+told]}, 8 + told, api.OK
}

// TestAnyOctets: whatever octets are given, Open and Scan end and tell what the words say (P1 of DOC.md).
func TestAnyOctets(t *testing.T) {
	all, _ := laid(t, short())
	for seed := range uint32(4000) {
		pick := text(8, seed)
		b := text(int(pick[0])%40, seed+1)
		if pick[1]&1 == 0 {
			b = slices.Clone(all[int(pick[2])%len(all):])
		}
		if len(b) > 4 && pick[3]&1 == 0 {
			b[0], b[2], b[3] = 0xa7, pick[4]&0x11, pick[5]&0x1f
		}
		if pick[6]&1 == 0 && len(b) > 4 {
			b = summed(b[:min(len(b), 4+256*int(b[2])+int(b[3]))])
		}
		want, wantTook, wantErr := byWords(b)
		f, took, err := frames.Open(b)
		if !same(f, want) || took != wantTook || err != wantErr {
			t.Errorf("Open(% x): Kind %d, % x, %d, %d; want Kind %d, % x, %d, %d",
				b, f.Kind, f.Data, took, err, want.Kind, want.Data, wantTook, wantErr)
		}
		if list, n := frames.Scan(b); n > len(b) || (len(list) == 0) != (err != api.OK) {
			t.Errorf("Scan(% x): %d frames, %d octets", b, len(list), n)
		}
	}
}

// TestSameAgain: many calls at one time do not come between one another (P3 of DOC.md).
func TestSameAgain(t *testing.T) {
	list := samples()
	all, _ := laid(t, list)
	good := make(chan bool)
	for range 8 {
		go func() {
			got, n := frames.Scan(all)
			good <- n == len(all) && slices.EqualFunc(got, list, same)
		}()
	}
	for range 8 {
		if !<-good {
			t.Error("one of many scans answered otherwise")
		}
	}
}
