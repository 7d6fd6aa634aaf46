package scrub_test

import (
	"encoding/binary"
	"fmt"
	"math"
	"slices"
	"strings"
	"testing"

	"transept/api"
	"transept/frames"
	"transept/scrub"
	"transept/wal"
)

// frame answers a frame's octets by another hand than the program's: it need not be one that may be.
func frame(kind byte, data string) []byte {
	b := binary.BigEndian.AppendUint16([]byte{0xa7, kind}, uint16(len(data)))
	b = append(b, data...)
	return binary.BigEndian.AppendUint32(b, sum(b))
}

// records answers the octets of a segment of these records.
func records(l ...string) []byte {
	var b []byte
	for _, r := range l {
		b = append(b, frame(1, r)...)
	}
	return b
}

func texts() []string {
	return []string{"a", "bc", "", strings.Repeat("long", 75), "", "\xa7\x01\x00\x00", "e"}
}

// ends answers where each frame of these records ends, and 0 ahead of them.
func ends(l []string) []int {
	at := []int{0}
	for _, r := range l {
		at = append(at, at[len(at)-1]+8+len(r))
	}
	return at
}

// aheadOf answers the last of these ends at an octet or ahead of it.
func aheadOf(ends []int, octet int) int {
	last := 0
	for _, end := range ends {
		if end <= octet {
			last = end
		}
	}
	return last
}

// wholeAhead answers by another hand how many octets of data are whole frames of Kind 1 ahead of the first that are not.
func wholeAhead(data []byte) int {
	at := 0
	for len(data)-at >= 8 && data[at] == 0xa7 && data[at+1] == 1 {
		n := int(binary.BigEndian.Uint16(data[at+2:]))
		end := at + 8 + n
		if n > 4096 || end > len(data) || sum(data[at:end-4]) != binary.BigEndian.Uint32(data[end-4:]) {
			break
		}
		at = end
	}
	return at
}

func segsOf(datas ...[]byte) []wal.Seg {
	var l []wal.Seg
	for i, data := range datas {
		l = append(l, wal.Seg{First: 100 + 7*i, Data: data})
	}
	return l
}

// wantSegs: Segs tells just these damages, each as place and octets.
func wantSegs(t *testing.T, what string, l []wal.Seg, want ...[2]int) {
	t.Helper()
	var damages []scrub.Damage
	for _, w := range want {
		damages = append(damages, scrub.Damage{Kind: segKind, Number: w[0], At: w[1]})
	}
	if told := scrub.Segs(l); !slices.Equal(told, damages) {
		t.Errorf("Segs of %s: %s; want %s", what, short(told), short(damages))
	}
}

// wantWholeTo: of the segment of that data so many octets are whole, wherever it stands among others.
func wantWholeTo(t *testing.T, what string, data []byte, octets int) {
	t.Helper()
	good := records("good")
	alone, among := segsOf(data), segsOf(good, nil, data, good, data)
	if octets == len(data) {
		wantSegs(t, what, alone)
		wantSegs(t, what+", among others", among)
		return
	}
	wantSegs(t, what, alone, [2]int{0, octets})
	wantSegs(t, what+", among others", among, [2]int{2, octets}, [2]int{4, octets})
}

func TestP12_1SegsNone(t *testing.T) {
	wantSegs(t, "no segment", nil)
	wantSegs(t, "no segment", []wal.Seg{})
	wantSegs(t, "an empty one", []wal.Seg{{}})
	wantSegs(t, "empty ones", []wal.Seg{{Data: []byte{}}, {First: 9}, {Data: nil}})
}

func TestP12_1SegsWhole(t *testing.T) {
	for _, l := range [][]string{{""}, {"a"}, {"", ""}, texts(), {strings.Repeat("x", 4096)}, {strings.Repeat("x", 4095), "y", strings.Repeat("z", 4096)}} {
		wantWholeTo(t, "whole records", records(l...), len(records(l...)))
	}
	many := records(slices.Repeat([]string{"", "r"}, 20000)...)
	wantWholeTo(t, "40000 records", many, len(many))
	wantWholeTo(t, "40000 records less an octet", many[:len(many)-1], len(many)-9)
	b, err := frames.Seal(frames.Frame{Kind: 1, Data: []byte("sealed")})
	if err != api.OK {
		t.Fatal("Seal:", err)
	}
	wantWholeTo(t, "a frame of Seal", b, len(b))
}

// TestP12_1SegsFirst: First says nothing: neither where a segment begins nor whether the next one goes on.
func TestP12_1SegsFirst(t *testing.T) {
	for _, first := range []int{math.MinInt, -1, 0, 1, 2, 1 << 40, 1<<40 + 1, math.MaxInt - 1, math.MaxInt} {
		l := []wal.Seg{{First: first, Data: records("a", "b")}, {First: first, Data: records("c")}, {First: first}}
		wantSegs(t, fmt.Sprintf("First %d", first), l)
		l[1].Data = append(records("c", "d"), 0)
		l[2].Data = []byte{0xa7}
		wantSegs(t, fmt.Sprintf("First %d, torn", first), l, [2]int{1, 18}, [2]int{2, 0})
	}
}

// TestP12_1SegsCut: a segment cut off at every octet is whole up to the last frame's end ahead of the cut.
func TestP12_1SegsCut(t *testing.T) {
	whole, ends := records(texts()...), ends(texts())
	for cut := range len(whole) + 1 {
		wantWholeTo(t, fmt.Sprintf("a cut at %d", cut), whole[:cut], aheadOf(ends, cut))
	}
}

// TestP12_1SegsRot: a segment with one bit turned is whole up to the frame that has it.
func TestP12_1SegsRot(t *testing.T) {
	whole, ends := records(texts()...), ends(texts())
	for bit := range len(whole) * 8 {
		turned := slices.Clone(whole)
		turned[bit/8] ^= 1 << (bit % 8)
		wantWholeTo(t, fmt.Sprintf("bit %d turned", bit), turned, aheadOf(ends, bit/8))
	}
}

// TestP12_1SegsKind: a frame of another Kind ends what is whole, wherever it stands and whatever is behind it.
func TestP12_1SegsKind(t *testing.T) {
	for _, kind := range []byte{0, 2, 3, 0x81, 0xa7, 0xff} {
		for _, data := range []string{"", "x", strings.Repeat("x", 4096)} {
			other := frame(kind, data)
			wantWholeTo(t, "another Kind alone", other, 0)
			wantWholeTo(t, "another Kind twice", slices.Concat(other, other), 0)
			wantWholeTo(t, "another Kind, and a tear", append(slices.Clone(other), 0xa7), 0)
			for i, end := range ends(texts()) {
				b := slices.Concat(records(texts()[:i]...), other, records(texts()[i:]...))
				wantWholeTo(t, fmt.Sprintf("Kind %d at %d", kind, end), b, end)
				wantWholeTo(t, fmt.Sprintf("Kind %d at %d, and a tear", kind, end), b[:len(b)-1], end)
			}
		}
	}
}

// TestP12_1SegsBehind: octets behind whole frames that are none.
func TestP12_1SegsBehind(t *testing.T) {
	whole := records("a", "bc")
	for _, behind := range [][]byte{
		{0}, {0xa7}, make([]byte, 7), make([]byte, 8), make([]byte, 64), {0xa7, 1, 0, 0}, {0xa7, 1, 0, 0, 0, 0, 0, 0},
		frame(1, strings.Repeat("x", 4097)), frame(1, strings.Repeat("x", 65535)), frame(1, "torn")[:11], frame(1, "torn")[1:],
	} {
		wantWholeTo(t, "none behind", slices.Concat(whole, behind), len(whole))
		wantWholeTo(t, "none behind, and a frame", slices.Concat(whole, behind, whole), len(whole))
		wantWholeTo(t, "none ahead", slices.Concat(behind, whole), 0)
		wantWholeTo(t, "none alone", behind, 0)
	}
}

// TestP12_1SegsMany: there may be any number of segments.
func TestP12_1SegsMany(t *testing.T) {
	for _, n := range []int{4095, 4096, 4097, 10000} {
		whole := slices.Repeat(segsOf(records("w")), n)
		wantSegs(t, "whole ones", whole)
		torn := slices.Clone(whole)
		torn[0].Data, torn[n/2].Data, torn[n-1].Data = []byte("t"), append(records("w"), 1), records("w", "x")[:17]
		wantSegs(t, "torn ones", torn, [2]int{0, 0}, [2]int{n / 2, 9}, [2]int{n - 1, 9})
		all := slices.Repeat(segsOf(frame(2, "w")), n)
		if told := scrub.Segs(all); len(told) != n || told[n-1] != (scrub.Damage{Kind: segKind, Number: n - 1}) {
			t.Errorf("Segs of %d torn ones: %s", n, short(told))
		}
	}
}

// piece answers octets by chance, most of them whole frames of Kind 1.
func piece(roll func(n int) int) []byte {
	b := frame(1, strings.Repeat("p", roll(40)))
	switch roll(12) {
	case 0:
		b[roll(len(b))] ^= 1 << roll(8)
	case 1:
		b = frame(byte(roll(4)), "kind")
	case 2:
		b = b[:roll(len(b))]
	case 3:
		b = nil
	}
	return b
}

// TestP12_1SegsChance: segments by chance: what is told is what is not whole by another hand, what wal.Check refuses,
// and what frames.Scan and Recover do not take.
func TestP12_1SegsChance(t *testing.T) {
	roll := dice(121)
	torn := 0
	for range 2000 {
		var l []wal.Seg
		var want [][2]int
		for i := range roll(6) {
			s := wal.Seg{First: roll(3)}
			for range roll(8) {
				s.Data = append(s.Data, piece(roll)...)
			}
			n := wholeAhead(s.Data)
			wantAgreed(t, s, n)
			if n < len(s.Data) {
				want = append(want, [2]int{i, n})
			}
			l = append(l, s)
		}
		torn += len(want)
		wantSegs(t, "segments by chance", l, want...)
	}
	if torn < 500 {
		t.Errorf("only %d segments are torn", torn)
	}
}

// wantAgreed: the layers below say the same of a segment of which so many octets are whole.
func wantAgreed(t *testing.T, s wal.Seg, whole int) {
	t.Helper()
	l, read, _ := wal.Recover([]wal.Seg{s})
	if len(l.Segs[0].Data) != whole {
		t.Errorf("Recover of % x: %d octets; by another hand: %d", s.Data, len(l.Segs[0].Data), whole)
	}
	may := wal.Check(wal.Log{Segs: []wal.Seg{s}, Next: s.First + len(read)}) == api.OK
	if may != (whole == len(s.Data)) {
		t.Errorf("Check of % x: %t; by another hand %d octets are whole", s.Data, may, whole)
	}
	scanned, _ := frames.Scan(s.Data)
	taken := 0
	for _, f := range scanned {
		if f.Kind != 1 {
			break
		}
		taken += 8 + len(f.Data)
	}
	if taken != whole {
		t.Errorf("Scan of % x: %d octets; by another hand: %d", s.Data, taken, whole)
	}
}
