package memory_test

import (
	"math"
	"slices"
	"strings"
	"testing"

	"transept/api"
	"transept/command"
)

// commands are some of each Kind, some of which may not be.
func commands() []api.Command {
	ops := []api.Op{{Kind: 2, Key: "k", Value: "v"}, {Kind: 1, Key: "\xff"}, {Kind: 3, Key: strings.Repeat("d", 32)}, {Kind: 2, Key: "k", Value: strings.Repeat("v", 64)}, {Kind: 2, Key: "none"}}
	l := []api.Command{{}, {Kind: 7}, {Kind: 1, Txn: math.MaxInt}, {Kind: 2, Txn: math.MinInt, Home: -1}}
	for n := range len(ops) + 1 {
		l = append(l, api.Command{Kind: 1, Txn: 1 << (8 * n), Home: n % 4, Ops: ops[:n]})
	}
	for kind := 2; kind <= 6; kind++ {
		c := api.Command{Kind: kind, Txn: 300, Home: 3}
		if kind == 4 {
			c.Verdict = 1
		}
		if kind > 4 {
			c.Txn = 0
		}
		l = append(l, c)
		c.Ops = []api.Op{}
		l = append(l, c)
		c.Ops = ops[:1]
		l = append(l, c)
	}
	wrong := slices.Repeat(ops, 4)
	l = append(l, api.Command{Kind: 1, Txn: 9, Ops: wrong}, api.Command{Kind: 1, Txn: 9, Ops: wrong[:16]})
	for _, o := range []api.Op{{Kind: 4, Key: "k"}, {Kind: 1}, {Kind: 1, Key: strings.Repeat("k", 33)}, {Kind: 3, Key: "k", Value: "v"}} {
		l = append(l, api.Command{Kind: 1, Txn: 9, Ops: append(slices.Clone(ops[:2]), o)})
	}
	return l
}

func TestP13_4Memory(t *testing.T) {
	encoded := [][]byte{nil, {}, {0}, {3, 1}, {2, 2, 0x80, 0, 0, 0, 0}, {2, 1, 1, 0, 0, 1, 2, 0, 1, 'v'}, {1, 5, 0, 0, 0, 0, 0, 0, 0, 0, 0, 0, 0}}
	for _, c := range commands() {
		hold(t, "Check", command.Check, c)
		for _, version := range []int{1, 2, 0, 3, -1, math.MaxInt, math.MinInt} {
			hold(t, "Encode", command.Encode, c, version)
			if b, err := command.Encode(c, version); err == api.OK {
				encoded = append(encoded, b)
			}
		}
	}
	if len(encoded) < 35 {
		t.Errorf("of the commands only %d were told", len(encoded))
	}
	for _, b := range encoded {
		hold(t, "Decode", command.Decode, b)
		hold(t, "Decode", command.Decode, append(slices.Clone(b), 0))
		hold(t, "Decode", command.Decode, b[:len(b)/2])
	}
}
