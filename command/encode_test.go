package command_test

import (
	"bytes"
	"encoding/binary"
	"encoding/hex"
	"reflect"
	"slices"
	"strings"
	"sync"
	"testing"

	"transept/api"
	"transept/command"
)

// spelt answers the octets that hexadecimal digits spell, blanks between them as you like.
func spelt(t *testing.T, digits string) []byte {
	t.Helper()
	b, err := hex.DecodeString(strings.ReplaceAll(digits, " ", ""))
	if err != nil {
		t.Fatal(err)
	}
	return b
}

// laid answers a command's octets by another hand, whether it may be or not; numbers must fit in their octets.
func laid(c api.Command, version int) []byte {
	b := []byte{byte(version), byte(c.Kind)}
	if version == 1 {
		b = binary.BigEndian.AppendUint64(b, uint64(c.Txn))
	} else {
		b = binary.AppendUvarint(b, uint64(c.Txn))
	}
	b = append(b, byte(c.Home), byte(c.Verdict), byte(len(c.Ops)))
	for _, o := range c.Ops {
		b = append(b, byte(o.Kind), byte(len(o.Key)))
		if version == 1 {
			b = append(b, o.Key...)
			b = binary.BigEndian.AppendUint16(b, uint16(len(o.Value)))
			b = append(b, o.Value...)
		} else {
			b = append(b, byte(len(o.Value)))
			b = append(append(b, o.Key...), o.Value...)
		}
	}
	return b
}

// knows tells by another hand whether a command that may be can be told in that version.
func knows(c api.Command, version int) bool {
	return version == 2 || version == 1 && c.Kind != activate && len(c.Ops) < 5
}

// same tells whether two commands are, no list and an empty one being one.
func same(a, b api.Command) bool {
	none := len(a.Ops) == 0 && len(b.Ops) == 0
	a.Ops, b.Ops = slices.Concat(a.Ops), slices.Concat(b.Ops)
	if none {
		a.Ops, b.Ops = nil, nil
	}
	return reflect.DeepEqual(a, b)
}

// wantBothWays: Encode of the command is b, and Decode of b is the command.
func wantBothWays(t *testing.T, c api.Command, version int, b []byte) {
	t.Helper()
	if got, err := command.Encode(c, version); err != api.OK || !bytes.Equal(got, b) {
		t.Errorf("Encode of %s in version %d: % x, %d; want % x", short(c), version, got, err, b)
	}
	if got, v, err := command.Decode(b); err != api.OK || v != version || !same(got, c) {
		t.Errorf("Decode of % x: %s, %d, %d; want %s, %d", b, short(got), v, err, short(c), version)
	}
}

// wantUnknown: the command may be, but not in that version.
func wantUnknown(t *testing.T, c api.Command, version int) {
	t.Helper()
	if b, err := command.Encode(c, version); err != api.ErrVersion || len(b) > 0 {
		t.Errorf("Encode of %s in version %d: % x, %d; want %d alone", short(c), version, b, err, api.ErrVersion)
	}
}

// wantInAll: in each version that knows the command its octets are those of another hand, in each other one there are none.
func wantInAll(t *testing.T, c api.Command) {
	t.Helper()
	for version := -1; version <= 4; version++ {
		if knows(c, version) {
			wantBothWays(t, c, version, laid(c, version))
		} else {
			wantUnknown(t, c, version)
		}
	}
}

// TestP13_1ByHand: commands of each Kind, octet by octet.
func TestP13_1ByHand(t *testing.T) {
	ops := []api.Op{{Kind: writeOp, Key: "k", Value: "v"}, {Kind: readOp, Key: "q"}, {Kind: deleteOp, Key: "\x00\xff"}, {Kind: writeOp, Key: "ab"}}
	for _, x := range []struct {
		c        api.Command
		one, two string
	}{
		{api.Command{Kind: commit, Txn: 300}, "01 02 000000000000012c 00 00 00", "02 02 ac02 00 00 00"},
		{api.Command{Kind: prepare, Txn: 9, Home: 1}, "01 01 0000000000000009 01 00 00", "02 01 09 01 00 00"},
		{api.Command{Kind: prepare, Txn: 9, Home: 1, Ops: ops[:1]}, "01 01 0000000000000009 01 00 01 02 01 6b 0001 76", "02 01 09 01 00 01 02 01 01 6b 76"},
		{api.Command{Kind: prepare, Txn: 1 << 40, Home: 3, Ops: ops},
			"01 01 0000010000000000 03 00 04 02 01 6b 0001 76 01 01 71 0000 03 02 00ff 0000 02 02 6162 0000",
			"02 01 808080808020 03 00 04 02 01 01 6b 76 01 01 00 71 03 02 00 00ff 02 02 00 6162"},
		{api.Command{Kind: abort, Txn: 127, Home: 2}, "01 03 000000000000007f 02 00 00", "02 03 7f 02 00 00"},
		{api.Command{Kind: abort, Txn: 128}, "01 03 0000000000000080 00 00 00", "02 03 8001 00 00 00"},
		{api.Command{Kind: decide, Txn: 1, Home: 3, Verdict: 1}, "01 04 0000000000000001 03 01 00", "02 04 01 03 01 00"},
		{api.Command{Kind: decide, Txn: 1<<40 - 1, Verdict: 2}, "01 04 000000ffffffffff 00 02 00", "02 04 ffffffffff1f 00 02 00"},
		{api.Command{Kind: activate, Home: 1}, "", "02 05 00 01 00 00"},
		{api.Command{Kind: nothing}, "01 06 0000000000000000 00 00 00", "02 06 00 00 00 00"},
	} {
		if x.one != "" {
			wantBothWays(t, x.c, 1, spelt(t, x.one))
		}
		wantBothWays(t, x.c, 2, spelt(t, x.two))
	}
	value := strings.Repeat("v", 64)
	long := withOps(api.Op{Kind: writeOp, Key: strings.Repeat("k", 32), Value: value})
	wantBothWays(t, long, 1, append(append(append(spelt(t, "01 01 000000000000012c 02 00 01 02 20"), long.Ops[0].Key...), 0, 64), value...))
	wantBothWays(t, long, 2, append(append(spelt(t, "02 01 ac02 02 00 01 02 20 40"), long.Ops[0].Key...), value...))
}

// TestP13_1Versions: there are two, and the number is not taken for its lowest octet.
func TestP13_1Versions(t *testing.T) {
	for _, kind := range kinds() {
		for _, version := range oddInts() {
			if version < 1 || version > 2 {
				wantUnknown(t, good(kind), version)
			}
		}
		wantInAll(t, good(kind))
	}
	wantUnknown(t, good(activate), 1)
	wantUnknown(t, api.Command{Kind: activate, Home: 3}, 1)
}

// TestP13_1FourOps: version 1 knows up to four, version 2 up to 16.
func TestP13_1FourOps(t *testing.T) {
	for n := range mostOps + 1 {
		for _, l := range [][]api.Op{mixed(n), writes(n), slices.Repeat([]api.Op{{Kind: readOp, Key: "r"}}, n)} {
			c := withOps(l...)
			wantBothWays(t, c, 2, laid(c, 2))
			if n <= 4 {
				wantBothWays(t, c, 1, laid(c, 1))
			} else {
				wantUnknown(t, c, 1)
			}
		}
	}
}

// TestP13_1Numbers: transactions about each number of groups, in as few groups as they need; each Home and Verdict.
func TestP13_1Numbers(t *testing.T) {
	for _, kind := range []int{prepare, commit, abort, decide} {
		c := good(kind)
		for bit := range 41 {
			for _, c.Txn = range []int{1<<bit - 1, 1 << bit, 1<<bit + 1, 1<<bit | 1<<(bit/2)} {
				if c.Txn < 1 || c.Txn > mostTxn {
					continue
				}
				wantInAll(t, c)
				bare := c
				bare.Ops = nil
				groups := 1
				for n := c.Txn >> 7; n > 0; n >>= 7 {
					groups++
				}
				if b, _ := command.Encode(bare, 2); len(b) != 5+groups {
					t.Errorf("Encode of %s: % x; want %d groups", short(bare), b, groups)
				}
			}
		}
	}
	for _, kind := range kinds() {
		for home := range 4 {
			c := good(kind)
			c.Home = home
			wantInAll(t, c)
			if kind == decide {
				c.Verdict = 1
				wantInAll(t, c)
			}
		}
	}
}

// TestP13_1Lengths: each length of a key with some of a value, and the other way.
func TestP13_1Lengths(t *testing.T) {
	for key := 1; key <= mostKey; key++ {
		for value := 0; value <= mostVal; value++ {
			write := api.Op{Kind: writeOp, Key: strings.Repeat("k", key), Value: strings.Repeat("v", value)}
			wantInAll(t, withOps(write))
			wantInAll(t, withOps(api.Op{Kind: deleteOp, Key: write.Key}, write, api.Op{Kind: readOp, Key: write.Key}))
		}
	}
	for octet := range 256 {
		wantInAll(t, withOps(api.Op{Kind: writeOp, Key: string([]byte{byte(octet)}), Value: string([]byte{byte(octet), 0, byte(octet)})}))
	}
	most := writes(mostOps)
	for i := range most {
		most[i].Key, most[i].Value = strings.Repeat("k", mostKey), strings.Repeat("v", mostVal)
	}
	wantInAll(t, withOps(most...))
	wantInAll(t, withOps(most[:4]...))
}

// TestP13_3Chance: commands by chance: what Encode makes is what another hand makes, and Decode of it the command.
func TestP13_3Chance(t *testing.T) {
	roll, may := dice(133), 0
	for range 20000 {
		if c := anyCommand(roll); fault(c) == api.OK {
			wantInAll(t, c)
			may++
		}
	}
	if may < 5000 {
		t.Errorf("of all commands only %d may be", may)
	}
}

// TestSameAgain: the same arguments, the same answers, from many goroutines at once too.
func TestSameAgain(t *testing.T) {
	c := withOps(mixed(4)...)
	bad := withOps(api.Op{Kind: 4})
	b := laid(c, 2)
	var wait sync.WaitGroup
	for range 8 {
		wait.Go(func() {
			for range 200 {
				wantInAll(t, c)
				want(t, bad, api.ErrKind)
				wantStopped(t, b[:len(b)-1], api.ErrShort)
				wantStopped(t, append(slices.Clone(b), 0), api.ErrTail)
			}
		})
	}
	wait.Wait()
}
