package command_test

import (
	"fmt"
	"math"
	"slices"
	"strings"
	"testing"

	"transept/api"
	"transept/command"
)

const (
	prepare  = 1
	commit   = 2
	abort    = 3
	decide   = 4
	activate = 5
	nothing  = 6

	readOp   = 1
	writeOp  = 2
	deleteOp = 3

	mostTxn = 1 << 40
	mostOps = 16
	mostKey = 32
	mostVal = 64
)

// kinds are all that there are.
func kinds() []int {
	return []int{prepare, commit, abort, decide, activate, nothing}
}

// oddInts are numbers about the bounds of a command, about what an octet holds, and at the ends of int.
func oddInts() []int {
	return []int{math.MinInt, math.MinInt + 1, -mostTxn, -1 << 32, -257, -256, -255, -7, -6, -3, -2, -1, 0, 1, 2, 3, 4, 5, 6, 7, 8, 9, 16, 17, 127, 128,
		255, 256, 257, 258, 260, 261, 262, 1 << 16, 1<<16 + 1, 1 << 31, 1 << 32, 1<<32 + 1, 1<<32 + 4, mostTxn - 1, mostTxn, mostTxn + 1, mostTxn + 4, 1 << 41, 1 << 42,
		1<<42 + 1, 1 << 62, math.MaxInt - 1, math.MaxInt}
}

// writes answers so many writes.
func writes(n int) []api.Op {
	var l []api.Op
	for i := range n {
		l = append(l, api.Op{Kind: writeOp, Key: fmt.Sprintf("k%d", i), Value: strings.Repeat("v", i%(mostVal+1))})
	}
	return l
}

// mixed answers so many ops, one of each Kind in turn.
func mixed(n int) []api.Op {
	l := writes(n)
	for i := range l {
		l[i].Kind = 1 + i%3
		if l[i].Kind != writeOp {
			l[i].Value = ""
		}
	}
	return l
}

// good answers a command of that Kind that may be.
func good(kind int) api.Command {
	c := api.Command{Kind: kind, Txn: 300, Home: 2}
	switch kind {
	case prepare:
		c.Ops = mixed(3)
	case decide:
		c.Verdict = 2
	case activate, nothing:
		c.Txn = 0
	}
	return c
}

// withOps answers a prepare of these ops.
func withOps(l ...api.Op) api.Command {
	c := good(prepare)
	c.Ops = l
	return c
}

func valueMost(kind int) int {
	if kind == writeOp {
		return mostVal
	}
	return 0
}

// fault answers by another hand the first error of a command, in the order of the chapter.
func fault(c api.Command) api.Errno {
	in := func(n, from, to int) bool { return from <= n && n <= to }
	kind, key, long := in(c.Kind, 1, 6), true, true
	for _, o := range c.Ops {
		kind = kind && in(o.Kind, 1, 3)
		key = key && in(len(o.Key), 1, mostKey)
		long = long && len(o.Value) <= valueMost(o.Kind)
	}
	leastTxn, greatestTxn, leastVerdict, greatestVerdict, ops := 1, mostTxn, 0, 0, 0
	switch c.Kind {
	case prepare:
		ops = mostOps
	case decide:
		leastVerdict, greatestVerdict = 1, 2
	case activate, nothing:
		leastTxn, greatestTxn = 0, 0
	}
	if !kind {
		return api.ErrKind
	}
	if !in(c.Txn, leastTxn, greatestTxn) || !in(c.Home, 0, 3) || !in(c.Verdict, leastVerdict, greatestVerdict) {
		return api.ErrRange
	}
	if len(c.Ops) > ops {
		return api.ErrCount
	}
	if !key {
		return api.ErrKey
	}
	if !long {
		return api.ErrLong
	}
	return api.OK
}

// short answers what a test tells of a thing.
func short(v any) string {
	s := fmt.Sprintf("%+v", v)
	return s[:min(len(s), 300)]
}

// want: Check tells that, and so does Encode in each version, which is no version either, ahead of all else.
func want(t *testing.T, c api.Command, err api.Errno) {
	t.Helper()
	if got := command.Check(c); got != err {
		t.Errorf("Check of %s: %d; want %d", short(c), got, err)
	}
	if err == api.OK {
		return
	}
	for _, version := range []int{0, 1, 2, 3, -1} {
		if b, got := command.Encode(c, version); got != err || len(b) > 0 {
			t.Errorf("Encode of %s in version %d: % x, %d; want %d alone", short(c), version, b, got, err)
		}
	}
}

// only answers err if a number is not one of those that may be.
func only(n int, err api.Errno, may ...int) api.Errno {
	if slices.Contains(may, n) {
		return api.OK
	}
	return err
}

func TestP13_1Good(t *testing.T) {
	for _, kind := range kinds() {
		want(t, good(kind), api.OK)
	}
	want(t, api.Command{}, api.ErrKind)
}

func TestP13_1Kind(t *testing.T) {
	for _, kind := range oddInts() {
		if !slices.Contains(kinds(), kind) {
			for _, like := range kinds() {
				c := good(like)
				c.Kind = kind
				want(t, c, api.ErrKind)
			}
		}
	}
}

func TestP13_1Txn(t *testing.T) {
	for _, kind := range kinds() {
		for _, txn := range oddInts() {
			c := good(kind)
			c.Txn = txn
			switch {
			case kind == activate || kind == nothing:
				want(t, c, only(txn, api.ErrRange, 0))
			case txn >= 1 && txn <= mostTxn:
				want(t, c, api.OK)
			default:
				want(t, c, api.ErrRange)
			}
		}
	}
}

func TestP13_1Home(t *testing.T) {
	for _, kind := range kinds() {
		for _, home := range oddInts() {
			c := good(kind)
			c.Home = home
			want(t, c, only(home, api.ErrRange, 0, 1, 2, 3))
		}
	}
}

func TestP13_1Verdict(t *testing.T) {
	for _, kind := range kinds() {
		for _, verdict := range oddInts() {
			c := good(kind)
			c.Verdict = verdict
			if kind == decide {
				want(t, c, only(verdict, api.ErrRange, 1, 2))
			} else {
				want(t, c, only(verdict, api.ErrRange, 0))
			}
		}
	}
}

// TestP13_1Count: a prepare has up to 16 ops, or none; any other command has none.
func TestP13_1Count(t *testing.T) {
	for _, n := range []int{0, 1, 2, 4, 5, 15, 16, 17, 18, 32, 255, 256, 257, 256 + 16, 4096, 1 << 16} {
		for _, kind := range kinds() {
			c := good(kind)
			c.Ops = mixed(n)
			if n == 0 || kind == prepare && n <= 16 {
				want(t, c, api.OK)
			} else {
				want(t, c, api.ErrCount)
			}
		}
	}
	for _, kind := range kinds() {
		c := good(kind)
		c.Ops = []api.Op{}
		want(t, c, api.OK)
	}
}

// TestP13_1OpKind: an op's Kind counts at each place, and in commands that may have no op, too.
func TestP13_1OpKind(t *testing.T) {
	for _, kind := range oddInts() {
		err := only(kind, api.ErrKind, 1, 2, 3)
		for n := 1; n <= mostOps; n++ {
			for at := range n {
				l := mixed(n)
				l[at].Kind, l[at].Value = kind, ""
				want(t, withOps(l...), err)
			}
		}
		for _, of := range kinds() {
			c := good(of)
			c.Ops = []api.Op{{Kind: kind, Key: "k"}}
			if err == api.OK && of != prepare {
				want(t, c, api.ErrCount)
			} else {
				want(t, c, err)
			}
		}
		many := mixed(mostOps + 4)
		many[len(many)-1].Kind = kind
		if err == api.OK {
			err = api.ErrCount
		}
		want(t, withOps(many...), err)
	}
}

// texts are texts about the lengths that a key and a value may have: octets count, not what they spell.
func texts() []string {
	l := []string{strings.Repeat("é", 16), strings.Repeat("é", 17), strings.Repeat("€", 11), strings.Repeat("é", 32), strings.Repeat("é", 33), "é" + strings.Repeat("x", 31)}
	for _, n := range []int{0, 1, 2, 31, 32, 33, 63, 64, 65, 66, 128, 255, 256, 257, 256 + 32, 1 << 16, 1<<16 + 1} {
		l = append(l, strings.Repeat("x", n), strings.Repeat("\x00", n), strings.Repeat("\xff", n))
	}
	return l
}

func TestP13_1Key(t *testing.T) {
	for _, key := range texts() {
		err := api.ErrKey
		if len(key) >= 1 && len(key) <= 32 {
			err = api.OK
		}
		for _, n := range []int{1, 2, 5, mostOps} {
			for at := range n {
				l := mixed(n)
				l[at].Key = key
				want(t, withOps(l...), err)
			}
		}
		for kind := readOp; kind <= deleteOp; kind++ {
			want(t, withOps(api.Op{Kind: kind, Key: key}), err)
		}
	}
}

// TestP13_1Value: of a write up to 64 octets, of a read and a delete none.
func TestP13_1Value(t *testing.T) {
	for _, value := range texts() {
		for kind := readOp; kind <= deleteOp; kind++ {
			err := api.ErrLong
			if value == "" || kind == writeOp && len(value) <= 64 {
				err = api.OK
			}
			for _, n := range []int{1, 2, 5, mostOps} {
				for at := range n {
					l := mixed(n)
					l[at].Kind, l[at].Value = kind, value
					want(t, withOps(l...), err)
				}
			}
		}
	}
}

// TestP13_1SameKeys: ops need be neither in order nor of other keys.
func TestP13_1SameKeys(t *testing.T) {
	want(t, withOps(api.Op{Kind: writeOp, Key: "k", Value: "1"}, api.Op{Kind: readOp, Key: "k"}, api.Op{Kind: deleteOp, Key: "k"}, api.Op{Kind: readOp, Key: "a"}, api.Op{Kind: readOp, Key: "k"}), api.OK)
}

// spoiler is one thing that may be wrong with a command, and its error.
type spoiler struct {
	err   api.Errno
	spoil func(c *api.Command)
}

// spoilers are all of them, in the chapter's order; those of ops spoil one that stands at a place of their own.
func spoilers() []spoiler {
	return []spoiler{
		{api.ErrKind, func(c *api.Command) { c.Kind += 6 }},
		{api.ErrKind, func(c *api.Command) { c.Ops[4].Kind = 0 }},
		{api.ErrRange, func(c *api.Command) { c.Txn = -1 }},
		{api.ErrRange, func(c *api.Command) { c.Home = 4 }},
		{api.ErrRange, func(c *api.Command) { c.Verdict = 3 }},
		{api.ErrCount, func(c *api.Command) { c.Ops = append(c.Ops, mixed(mostOps)...) }},
		{api.ErrKey, func(c *api.Command) { c.Ops[2].Key = "" }},
		{api.ErrKey, func(c *api.Command) { c.Ops[3].Key = strings.Repeat("k", 33) }},
		{api.ErrLong, func(c *api.Command) { c.Ops[1].Kind, c.Ops[1].Value = writeOp, strings.Repeat("v", 65) }},
		{api.ErrLong, func(c *api.Command) { c.Ops[0].Kind, c.Ops[0].Value = readOp, "v" }},
	}
}

// TestP13_1Order: of each set of faults the one that the chapter names first is told; the later ones stand at lower
// places, so that who goes from op to op is told, too.
func TestP13_1Order(t *testing.T) {
	all := spoilers()
	for set := range 1 << len(all) {
		c, err := withOps(mixed(5)...), api.OK
		for i, s := range all {
			if set>>i&1 == 1 {
				s.spoil(&c)
				if err == api.OK {
					err = s.err
				}
			}
		}
		want(t, c, err)
	}
}

// TestP13_1OrderOfKinds: of each Kind, with each set of faults, where ops alone are a fault but of a prepare.
func TestP13_1OrderOfKinds(t *testing.T) {
	all := spoilers()
	for _, kind := range kinds() {
		for set := range 1 << len(all) {
			c := good(kind)
			c.Ops = mixed(5)
			for i, s := range all {
				if set>>i&1 == 1 {
					s.spoil(&c)
				}
			}
			want(t, c, fault(c))
		}
		for n := range 3 {
			for _, o := range []api.Op{{Kind: readOp}, {Kind: writeOp, Key: "k", Value: strings.Repeat("v", 65)}, {Kind: deleteOp, Value: "v"}} {
				c := good(kind)
				c.Ops = slices.Repeat([]api.Op{o}, n)
				if n > 0 && kind != prepare {
					want(t, c, api.ErrCount)
				} else {
					want(t, c, fault(c))
				}
			}
		}
	}
}

// dice answers numbers below n, the same ones for the same seed.
func dice(seed uint64) func(n int) int {
	return func(n int) int {
		seed = seed*6364136223846793005 + 1442695040888963407
		return int(seed>>33) % n
	}
}

// pick answers one of these numbers, mostly the first ones.
func pick(roll func(n int) int, few int, l ...int) int {
	if roll(40) > 0 {
		return l[roll(few)]
	}
	return l[roll(len(l))]
}

// anyCommand answers a command by chance, about half of which may be.
func anyCommand(roll func(n int) int) api.Command {
	c := good(pick(roll, 6, 1, 2, 3, 4, 5, 6, 0, 7, -1))
	c.Txn = pick(roll, 1, c.Txn, 0, 1, mostTxn, mostTxn+1, -1)
	c.Home = pick(roll, 4, 0, 1, 2, 3, 4, -1)
	c.Verdict = pick(roll, 1, c.Verdict, 0, 1, 2, 3)
	n := 0
	if c.Kind == prepare || roll(20) == 0 {
		n = pick(roll, 17, 0, 1, 2, 3, 4, 5, 6, 7, 8, 9, 10, 11, 12, 13, 14, 15, 16, 17, 18)
	}
	c.Ops = nil
	for range n {
		o := api.Op{Kind: 1 + roll(3), Key: strings.Repeat("k", pick(roll, 3, 1, 7, 32, 0, 33))}
		o.Value = strings.Repeat("v", min(pick(roll, 4, 0, 1, 9, 64, 65), valueMost(o.Kind)+roll(60)/59))
		if roll(100) == 0 {
			o.Kind = roll(6)
		}
		c.Ops = append(c.Ops, o)
	}
	return c
}

// TestP13_1Chance: Check agrees with another hand's.
func TestP13_1Chance(t *testing.T) {
	roll, told := dice(131), map[api.Errno]int{}
	for range 20000 {
		c := anyCommand(roll)
		want(t, c, fault(c))
		told[fault(c)]++
	}
	for _, err := range []api.Errno{api.OK, api.ErrKind, api.ErrRange, api.ErrCount, api.ErrKey, api.ErrLong} {
		if told[err] < 50 {
			t.Errorf("error %d was to be told %d times alone", err, told[err])
		}
	}
}
