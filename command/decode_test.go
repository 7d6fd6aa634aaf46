package command_test

import (
	"bytes"
	"encoding/binary"
	"math"
	"slices"
	"strings"
	"testing"

	"transept/api"
	"transept/command"
)

// wantStopped: Decode of b tells that error, and nothing else.
func wantStopped(t *testing.T, b []byte, want api.Errno) {
	t.Helper()
	if c, version, err := command.Decode(b); err != want || version != 0 || !same(c, api.Command{}) {
		t.Errorf("Decode of % x: %s, %d, %d; want %d alone", b, short(c), version, err, want)
	}
}

// wantAgreed: Decode of b tells what another hand tells; what it takes is Encode of it. It answers the error.
func wantAgreed(t *testing.T, b []byte) api.Errno {
	t.Helper()
	c, version, err := decoded(b)
	if err != api.OK {
		wantStopped(t, b, err)
		return err
	}
	wantBothWays(t, c, version, b)
	return api.OK
}

// decoded is Decode by another hand: it finds first where the parts lie, and reads them when all are there.
func decoded(b []byte) (api.Command, int, api.Errno) {
	if len(b) == 0 {
		return api.Command{}, 0, api.ErrShort
	}
	version := int(b[0])
	if version != 1 && version != 2 {
		return api.Command{}, 0, api.ErrVersion
	}
	txnSize, err := 8, api.OK
	if version == 2 {
		if txnSize, err = groupsOf(b); err != api.OK {
			return api.Command{}, 0, err
		}
	}
	at := 2 + txnSize + 3
	if len(b) < at {
		return api.Command{}, 0, api.ErrShort
	}
	c := api.Command{Kind: int(b[1]), Txn: txnOf(b[2:2+txnSize], version), Home: int(b[at-3]), Verdict: int(b[at-2])}
	for range b[at-1] {
		o, size := opOf(b[at:], version)
		if size == 0 {
			return api.Command{}, 0, api.ErrShort
		}
		c.Ops = append(c.Ops, o)
		at += size
	}
	switch {
	case at < len(b):
		return api.Command{}, 0, api.ErrTail
	case fault(c) != api.OK:
		return api.Command{}, 0, fault(c)
	case !knows(c, version):
		return api.Command{}, 0, api.ErrVersion
	}
	return c, version, api.OK
}

// groupsOf answers how many groups the transaction of version 2 has.
func groupsOf(b []byte) (int, api.Errno) {
	n := 0
	for 2+n < len(b) && n < 6 && b[2+n] > 127 {
		n++
	}
	switch {
	case n == 6:
		return 0, api.ErrRange
	case 2+n >= len(b):
		return 0, api.ErrShort
	case n > 0 && b[2+n] == 0:
		return 0, api.ErrRange
	}
	return n + 1, api.OK
}

func txnOf(b []byte, version int) int {
	n := binary.BigEndian.Uint64(append(make([]byte, 8), b...)[len(b):])
	if version == 2 {
		n, _ = binary.Uvarint(b)
	}
	if n > math.MaxInt {
		return math.MaxInt
	}
	return int(n)
}

// opOf answers the op with which b begins and its size, 0 if it is not all there.
func opOf(b []byte, version int) (api.Op, int) {
	if len(b) < 3 {
		return api.Op{}, 0
	}
	key, keyAt := int(b[1]), 3
	value, valueAt := int(b[2]), 3+key
	if version == 1 {
		if len(b) < 4+key {
			return api.Op{}, 0
		}
		value, keyAt, valueAt = int(binary.BigEndian.Uint16(b[2+key:])), 2, 4+key
	}
	if valueAt+value > len(b) {
		return api.Op{}, 0
	}
	return api.Op{Kind: int(b[0]), Key: string(b[keyAt : keyAt+key]), Value: string(b[valueAt : valueAt+value])}, valueAt + value
}

// few are commands of each Kind, with and without ops.
func few() []api.Command {
	l := []api.Command{withOps(), withOps(writes(2)...), withOps(mixed(4)...), withOps(mixed(5)...)}
	for _, kind := range kinds() {
		l = append(l, good(kind))
	}
	for _, txn := range []int{1, 127, 128, 1 << 14, 1<<35 - 1, 1 << 35, mostTxn} {
		c := withOps(writes(2)[1])
		c.Txn = txn
		l = append(l, c)
	}
	return append(l, withOps(api.Op{Kind: writeOp, Key: strings.Repeat("k", 32), Value: strings.Repeat("v", 64)}))
}

// octetsOf answers the octets of these commands in all versions that know them.
func octetsOf(l []api.Command) [][]byte {
	var all [][]byte
	for _, c := range l {
		for version := 1; version <= 2; version++ {
			if knows(c, version) {
				all = append(all, laid(c, version))
			}
		}
	}
	return all
}

// TestP13_2Cut: octets that are cut off anywhere end ahead; with an octet more something is left.
func TestP13_2Cut(t *testing.T) {
	wantStopped(t, nil, api.ErrShort)
	wantStopped(t, []byte{}, api.ErrShort)
	for _, b := range octetsOf(few()) {
		for cut := range b {
			wantStopped(t, b[:cut], api.ErrShort)
		}
		for _, more := range [][]byte{{0}, {1}, {2}, {0x80}, {0xff}, {0, 0}, make([]byte, 1000), b} {
			wantStopped(t, slices.Concat(b, more), api.ErrTail)
		}
	}
}

// TestP13_2OneOctet: each octet of each command changed to each other one.
func TestP13_2OneOctet(t *testing.T) {
	told := map[api.Errno]int{}
	for _, b := range octetsOf(few()) {
		for at := range b {
			for octet := range 256 {
				changed := slices.Clone(b)
				changed[at] = byte(octet)
				told[wantAgreed(t, changed)]++
			}
		}
	}
	// A length that is changed leaves too few octets or too many: no key is wrong then.
	wantAll(t, told, api.ErrKey)
}

// wantAll: all that Decode may tell, but for these, was told.
func wantAll(t *testing.T, told map[api.Errno]int, but ...api.Errno) {
	t.Helper()
	for _, err := range []api.Errno{api.OK, api.ErrShort, api.ErrVersion, api.ErrTail, api.ErrRange, api.ErrKind, api.ErrCount, api.ErrKey, api.ErrLong} {
		if told[err] < 10 && !slices.Contains(but, err) {
			t.Errorf("error %d was told %d times alone", err, told[err])
		}
	}
}

// TestP13_2Version: a first octet that is neither 1 nor 2 goes ahead of all else.
func TestP13_2Version(t *testing.T) {
	for octet := range 256 {
		if octet == 1 || octet == 2 {
			wantStopped(t, []byte{byte(octet)}, api.ErrShort)
			continue
		}
		wantStopped(t, []byte{byte(octet)}, api.ErrVersion)
		for _, b := range octetsOf(few()) {
			b[0] = byte(octet)
			wantStopped(t, b, api.ErrVersion)
			wantStopped(t, b[:len(b)/2], api.ErrVersion)
			wantStopped(t, append(b, 0), api.ErrVersion)
		}
		wantStopped(t, append([]byte{byte(octet), 9}, bytes.Repeat([]byte{0x80}, 9)...), api.ErrVersion)
	}
}

// TestP13_2Groups: one to six groups, of which the last is not 0, if there is one ahead.
func TestP13_2Groups(t *testing.T) {
	for n := 1; n <= 9; n++ {
		for _, ahead := range []byte{0x80, 0x81, 0xff} {
			for _, last := range []byte{0, 1, 0x1f, 0x20, 0x21, 0x7f} {
				groups := append(bytes.Repeat([]byte{ahead}, n-1), last)
				b := slices.Concat([]byte{2, commit}, groups, []byte{1, 0, 0})
				txn, _ := binary.Uvarint(groups)
				switch {
				case n > 6 || n > 1 && last == 0 || txn < 1 || txn > mostTxn:
					wantStopped(t, b, api.ErrRange)
				default:
					wantBothWays(t, api.Command{Kind: commit, Txn: int(txn), Home: 1}, 2, b)
				}
			}
		}
	}
	wantBothWays(t, api.Command{Kind: nothing}, 2, []byte{2, nothing, 0, 0, 0, 0})
	wantStopped(t, []byte{2, nothing, 0x80, 0, 0, 0, 0}, api.ErrRange)
	wantStopped(t, []byte{2, commit, 0, 0, 0, 0}, api.ErrRange)
}

// TestP13_2GroupsFirst: in order of the octets groups that may not be are told ahead of what is behind them: an end,
// a tail, and all that Check tells, of the Kind ahead of them too.
func TestP13_2GroupsFirst(t *testing.T) {
	for n := 1; n <= 9; n++ {
		for _, kind := range []byte{0, commit, 7, 0xff} {
			six := append([]byte{2, kind}, bytes.Repeat([]byte{0x80}, n)...)
			err := api.ErrShort
			if n >= 6 {
				err = api.ErrRange
			}
			wantStopped(t, six, err)
			zero := append(six, 0)
			for _, behind := range [][]byte{nil, {0}, {4, 0, 0}, {0, 3, 0}, {0, 0, 1}, {0, 0, 0}, {0, 0, 0, 0}, {0, 0, 17, 9, 0, 0}, {0, 0, 1, 1, 0, 1, 9}} {
				wantStopped(t, slices.Concat(zero, behind), api.ErrRange)
			}
		}
	}
}

// TestP13_2Beyond: a transaction of version 1 that an int has no room for, or that is above 2^40.
func TestP13_2Beyond(t *testing.T) {
	for _, kind := range kinds() {
		for _, txn := range []uint64{0, 1, mostTxn, mostTxn + 1, 1<<48 + 1, 1<<56 + 1, 1 << 62, 1<<63 - 1, 1 << 63, 1<<63 + 1, 1<<63 | mostTxn, math.MaxUint64 - 1, math.MaxUint64} {
			b := binary.BigEndian.AppendUint64([]byte{1, byte(kind)}, txn)
			b = append(b, 0, byte(good(kind).Verdict/2), 0)
			may := txn >= 1 && txn <= mostTxn
			if kind == activate || kind == nothing {
				may = txn == 0
			}
			switch {
			case !may:
				wantStopped(t, b, api.ErrRange)
			case kind == activate:
				wantStopped(t, b, api.ErrVersion)
			default:
				wantBothWays(t, api.Command{Kind: kind, Txn: int(txn), Verdict: good(kind).Verdict / 2}, 1, b)
			}
		}
	}
}

// TestP13_2Lengths: lengths that reach beyond the end, by one octet or by far.
func TestP13_2Lengths(t *testing.T) {
	one, two := spelt(t, "01 01 0000000000000009 00 00 01"), spelt(t, "02 01 09 00 00 01")
	for _, x := range []struct {
		ahead []byte
		op    string
		want  api.Errno
	}{
		{one, "", api.ErrShort}, {two, "", api.ErrShort},
		{one, "01", api.ErrShort}, {two, "01 01", api.ErrShort},
		{one, "01 01 6b", api.ErrShort}, {two, "01 01 00", api.ErrShort},
		{one, "01 01 6b 00", api.ErrShort},
		{one, "02 01 6b 0001", api.ErrShort}, {two, "02 01 01 6b", api.ErrShort},
		{one, "02 01 6b 0002 76", api.ErrShort}, {two, "02 01 02 6b 76", api.ErrShort},
		{one, "02 01 6b 0100 76", api.ErrShort}, {one, "02 01 6b ffff 76", api.ErrShort}, {two, "02 01 ff 6b 76", api.ErrShort},
		{one, "02 02 6b 0001 76", api.ErrShort}, {one, "02 02 6b 00 0000 76", api.ErrTail}, {two, "02 02 01 6b 76", api.ErrShort},
		{one, "02 ff 6b 0001 76", api.ErrShort}, {two, "02 ff 01 6b 76", api.ErrShort}, {two, "02 ff ff 6b 76", api.ErrShort},
		{one, "02 00 6b 0001 76", api.ErrShort}, {two, "02 00 01 6b 76", api.ErrTail},
		{one, "02 01 6b 0000 76", api.ErrTail}, {two, "02 01 00 6b 76", api.ErrTail},
		{one, "09 ff", api.ErrShort}, {two, "09 ff ff", api.ErrShort},
		{one, "02 00 0000", api.ErrKey}, {two, "02 00 00", api.ErrKey},
		{one, "01 01 6b 0001 76", api.ErrLong}, {two, "03 01 01 6b 76", api.ErrLong},
	} {
		wantStopped(t, append(slices.Clone(x.ahead), spelt(t, x.op)...), x.want)
	}
}

// TestP13_2Long: lengths that the octets have room for, but that may not be: Check's error, behind all octets.
func TestP13_2Long(t *testing.T) {
	for version := 1; version <= 2; version++ {
		for _, n := range []int{33, 34, 64, 127, 128, 255} {
			b := laid(withOps(writes(1)[0], api.Op{Kind: writeOp, Key: strings.Repeat("k", n)}), version)
			wantStopped(t, b, api.ErrKey)
			wantStopped(t, append(b, 0), api.ErrTail)
			wantStopped(t, b[:len(b)-1], api.ErrShort)
		}
		for _, n := range []int{65, 128, 255, 256, 257, 256 + 64, 4096, 65535} {
			if version == 2 && n > 255 {
				continue
			}
			b := laid(withOps(writes(1)[0], api.Op{Kind: writeOp, Key: "k", Value: strings.Repeat("v", n)}), version)
			wantStopped(t, b, api.ErrLong)
			wantStopped(t, append(b, 0), api.ErrTail)
			wantStopped(t, b[:len(b)-1], api.ErrShort)
		}
	}
}

// TestP13_2Count: as many ops as an octet tells are read, whether they may be or not.
func TestP13_2Count(t *testing.T) {
	for version := 1; version <= 2; version++ {
		for _, kind := range kinds() {
			for _, n := range []int{1, 2, 4, 5, 15, 16, 17, 127, 128, 255} {
				c := good(kind)
				c.Ops = mixed(n)
				b := laid(c, version)
				wantStopped(t, b[:len(b)-1], api.ErrShort)
				wantStopped(t, append(slices.Clone(b), 0), api.ErrTail)
				switch {
				case kind != prepare || n > mostOps:
					wantStopped(t, b, api.ErrCount)
				case version == 1 && n > 4:
					wantStopped(t, b, api.ErrVersion)
				default:
					wantBothWays(t, c, version, b)
				}
				c.Ops[n-1] = api.Op{Kind: 4, Key: "k"}
				wantStopped(t, laid(c, version), api.ErrKind)
			}
		}
	}
}

// TestP13_2CheckBehind: of each set of faults, laid out, Decode tells what Check tells, behind a tail, and ahead of a
// version 1 that has no form for it.
func TestP13_2CheckBehind(t *testing.T) {
	all := spoilers()
	for _, kind := range kinds() {
		for version := 1; version <= 2; version++ {
			for set := range 1 << len(all) {
				c := good(kind)
				c.Ops = mixed(5)
				for i, s := range all {
					if set>>i&1 == 1 {
						s.spoil(&c)
					}
				}
				if c.Txn < 0 {
					c.Txn = mostTxn + 1
				}
				b := laid(c, version)
				wantAgreed(t, b)
				wantStopped(t, append(b, 0), api.ErrTail)
			}
		}
	}
}

// TestP13_2Version1: what version 1 has no form for is told behind all else.
func TestP13_2Version1(t *testing.T) {
	for home := range 5 {
		c := api.Command{Kind: activate, Home: home}
		err := api.ErrVersion
		if home > 3 {
			err = api.ErrRange
		}
		wantStopped(t, laid(c, 1), err)
		wantStopped(t, append(laid(c, 1), 0), api.ErrTail)
		wantStopped(t, laid(c, 1)[:12], api.ErrShort)
	}
	five := withOps(mixed(5)...)
	wantStopped(t, laid(five, 1), api.ErrVersion)
	five.Ops[4].Key = ""
	wantStopped(t, laid(five, 1), api.ErrKey)
	five.Home = 4
	wantStopped(t, laid(five, 1), api.ErrRange)
	five.Verdict, five.Ops[0].Kind = 1, 0
	wantStopped(t, laid(five, 1), api.ErrKind)
}

// TestP13_2Small: all octets of a few values, up to seven of them.
func TestP13_2Small(t *testing.T) {
	told := map[api.Errno]int{}
	var grow func(b []byte, values []byte, most int)
	grow = func(b []byte, values []byte, most int) {
		if t.Failed() {
			return
		}
		told[wantAgreed(t, b)]++
		for _, v := range values {
			if len(b) < most {
				grow(append(b, v), values, most)
			}
		}
	}
	grow(nil, []byte{0, 1, 2, 5, 0x80, 0xff}, 7)
	for kind := range byte(9) {
		grow([]byte{2, kind}, []byte{0, 1, 2, 4, 0x80, 0x81}, 8)
	}
	grow([]byte{2, 1, 1, 0, 0}, []byte{0, 1, 2, 3}, 12)
	grow([]byte{2, 2, 1, 0, 0}, []byte{0, 1, 2, 3}, 11)
	grow([]byte{1, 1, 0, 0, 0, 0, 0, 0, 0}, []byte{0, 1, 2, 3}, 17)
	wantAll(t, told)
}

// TestP13_2Chance: commands by chance, whole, or with octets that are changed, cut out or put in.
func TestP13_2Chance(t *testing.T) {
	roll, told := dice(132), map[api.Errno]int{}
	for range 60000 {
		b := laid(anyCommand(roll), 1+roll(2))
		for range roll(4) {
			at := roll(len(b))
			switch roll(5) {
			case 0:
				b = slices.Delete(b, at, at+1)
			case 1:
				b = slices.Insert(b, at, byte(roll(256)))
			case 2:
				b = b[:at]
			case 3:
				b[at] = byte(roll(20))
			case 4:
				b[at] ^= 1 << roll(8)
			}
			if len(b) == 0 {
				break
			}
		}
		told[wantAgreed(t, b)]++
	}
	wantAll(t, told)
}
