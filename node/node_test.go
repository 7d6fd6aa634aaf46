package node_test

import (
	"bytes"
	"encoding/binary"
	"fmt"
	"io"
	"math"
	"slices"
	"strings"
	"sync"
	"testing"

	"transept/api"
	"transept/node"
)

const (
	longestKey   = 32    // MaxKey
	longestValue = 64    // MaxValue
	topPage      = 65536 // MaxPages
	mostOctets   = 244
	mostPairs    = 80 // of 3 octets each, behind 2
	mostInner    = 39 // of 6 octets each, behind 6
)

func list(l ...string) []string { return l }

func numbers(l ...int) []int { return l }

func leaf(keys, values []string) node.Node {
	return node.Node{Leaf: true, Keys: keys, Values: values}
}

func inner(keys []string, kids ...int) node.Node {
	return node.Node{Keys: keys, Kids: kids}
}

func text(n int) string {
	return strings.Repeat("transept", n/8+1)[:n]
}

// keysOf answers n keys of that many octets, rising, most of them with octets above 127.
func keysOf(n, octets int) []string {
	var l []string
	for i := range n {
		l = append(l, string([]byte{byte(60 + 2*i)})+strings.Repeat("\xfe", octets-1))
	}
	return l
}

// leafOf answers a leaf of n pairs, each with a value of that many octets.
func leafOf(n, octets int) node.Node {
	l := leaf(keysOf(n, 1), nil)
	for i := range n {
		l.Values = append(l.Values, strings.Repeat(string(rune('a'+i%26)), octets))
	}
	return l
}

// innerOf answers an inner node of n keys, its Kids falling.
func innerOf(n int) node.Node {
	m := inner(keysOf(n, 1))
	for i := range n + 1 {
		m.Kids = append(m.Kids, topPage-i)
	}
	return m
}

// withValue answers n with another value at a place.
func withValue(n node.Node, at int, value string) node.Node {
	n.Values = slices.Clone(n.Values)
	n.Values[at] = value
	return n
}

// withKid answers n with another Kid at a place.
func withKid(n node.Node, at int, kid int) node.Node {
	n.Kids = slices.Clone(n.Kids)
	n.Kids[at] = kid
	return n
}

// withKey answers n with another key at a place.
func withKey(n node.Node, at int, key string) node.Node {
	n.Keys = slices.Clone(n.Keys)
	n.Keys[at] = key
	return n
}

func same(n, m node.Node) bool {
	return n.Leaf == m.Leaf && slices.Equal(n.Keys, m.Keys) && slices.Equal(n.Values, m.Values) && slices.Equal(n.Kids, m.Kids)
}

// show answers what a test tells of a node.
func show(n node.Node) string {
	s := fmt.Sprintf("{leaf %t, keys %q, values %q, kids %d}", n.Leaf, n.Keys, n.Values, n.Kids)
	return s[:min(len(s), 300)]
}

// laid answers the octets of a node, by another hand than the program's; of one that may not be, too.
func laid(n node.Node) []byte {
	var b bytes.Buffer
	putText := func(s string) {
		b.WriteByte(byte(len(s)))
		b.WriteString(s)
	}
	if n.Leaf {
		fmt.Fprintf(&b, "%c%s", 1, string([]byte{byte(len(n.Keys))}))
		for i, key := range n.Keys {
			putText(key)
			putText(n.Values[i])
		}
		return b.Bytes()
	}
	b.Write([]byte{0, byte(len(n.Keys))})
	for i, kid := range n.Kids {
		b.Write([]byte{byte(kid >> 24), byte(kid >> 16), byte(kid >> 8), byte(kid)})
		if i < len(n.Keys) {
			putText(n.Keys[i])
		}
	}
	return b.Bytes()
}

// unlaid answers what a node's octets tell, by another hand, and the first error that is there.
func unlaid(b []byte) (node.Node, api.Errno) {
	r := bytes.NewReader(b)
	if len(b) < 2 {
		return node.Node{}, api.ErrShort
	}
	if b[0] > 1 {
		return node.Node{}, api.ErrKind
	}
	r.Seek(2, io.SeekStart)
	n, err := unlaidBody(r, b[0] == 1, int(b[1]))
	if err != nil {
		return node.Node{}, api.ErrShort
	}
	if r.Len() > 0 {
		return node.Node{}, api.ErrTail
	}
	if err := firstFault(n); err != api.OK {
		return node.Node{}, err
	}
	return n, api.OK
}

func unlaidBody(r *bytes.Reader, isLeaf bool, keys int) (node.Node, error) {
	var failed error
	octets := func(n int) []byte {
		b := make([]byte, n)
		if _, err := io.ReadFull(r, b); err != nil {
			failed = err
		}
		return b
	}
	getText := func() string { return string(octets(int(octets(1)[0]))) }
	n := node.Node{Leaf: isLeaf}
	if !isLeaf {
		n.Kids = append(n.Kids, int(binary.BigEndian.Uint32(octets(4))))
	}
	for range keys {
		n.Keys = append(n.Keys, getText())
		if isLeaf {
			n.Values = append(n.Values, getText())
		} else {
			n.Kids = append(n.Kids, int(binary.BigEndian.Uint32(octets(4))))
		}
	}
	return n, failed
}

// sizeOf counts a node's octets, by another hand.
func sizeOf(n node.Node) int {
	if !n.Leaf {
		return 2 + 4*len(n.Kids) + len(n.Keys) + len(strings.Join(n.Keys, ""))
	}
	values := n.Values
	if len(values) > len(n.Keys) {
		values = values[:len(n.Keys)]
	}
	return 2 + 2*len(n.Keys) + len(strings.Join(n.Keys, "")) + len(strings.Join(values, ""))
}

// firstFault is Check by the chapter's words, by another hand.
func firstFault(n node.Node) api.Errno {
	var last []byte
	for _, key := range n.Keys {
		if len(key) == 0 || len(key) > longestKey || bytes.Compare(last, []byte(key)) >= 0 {
			return api.ErrKey
		}
		last = []byte(key)
	}
	want := [2]int{0, len(n.Keys) + 1}
	if n.Leaf {
		want = [2]int{len(n.Keys), 0}
	}
	if [2]int{len(n.Values), len(n.Kids)} != want || !n.Leaf && len(n.Keys) == 0 {
		return api.ErrCount
	}
	for _, value := range n.Values {
		if len(value) > longestValue {
			return api.ErrLong
		}
	}
	for _, kid := range n.Kids {
		if kid < 1 || kid > topPage {
			return api.ErrRange
		}
	}
	if sizeOf(n) > mostOctets {
		return api.ErrFull
	}
	return api.OK
}

// named is a node and what is told of it.
type named struct {
	what string
	node.Node
}

// mayBe are nodes that may be, at the edges too.
func mayBe() []named {
	l := []named{
		{"a leaf without keys", leaf(nil, nil)},
		{"a leaf without keys, not nil", node.Node{Leaf: true, Keys: []string{}, Values: []string{}, Kids: []int{}}},
		{"a = x", leaf(list("a"), list("x"))},
		{"an empty value", leaf(list("a"), list(""))},
		{"three pairs", leaf(list("a", "c", "e"), list("x", "y", "z"))},
		{"equal values", leaf(list("a", "b"), list("v", "v"))},
		{"values that fall", leaf(list("a", "b"), list("w", "v"))},
		{"the longest key and value", leaf(list(text(longestKey)), list(text(longestValue)))},
		{"the longest keys", leaf(keysOf(2, longestKey), list("", "v"))},
		{"zeros", leaf(list("\x00", "\x00\x00", "\x00\x01", "\x01"), list("\x00", "", "\x00\x00", "\xff"))},
		{"octets above 127", leaf(list("\x7f", "\x80", "\xc3\x28", "\xff", "\xff\xff"), list("\x80", "\xfe", "", "\xff", "\xc3"))},
		{"keys that differ in length", leaf(list("k", "kk", "kkk"), list("1", "2", "3"))},
		{"keys that differ in the last octet", leaf(list("keyA", "keyB", "keya"), list("1", "2", "3"))},
		{"a longer key below a shorter one", leaf(list("aaaa", "b"), list("1", "2"))},
		{"full", withValue(leafOf(2, longestValue), 1, text(longestValue-1))},
		{"as many pairs as go in", leafOf(mostPairs, 0)},
		{"as many pairs as go in, full", withValue(leafOf(mostPairs, 0), 40, "xy")},
		{"one key", inner(list("m"), 1, 2)},
		{"one key, kids at the ends", inner(list("m"), 1, topPage)},
		{"kids that fall", inner(list("m", "n"), topPage, 2, 1)},
		{"kids that are equal", inner(list("m", "n"), 7, 7, 7)},
		{"kids of more octets", inner(list("m", "n", "o"), 255, 256, 65535, 257)},
		{"empty lists beside", node.Node{Keys: list("m"), Values: []string{}, Kids: numbers(3, 4)}},
		{"an inner one of the longest keys", inner(keysOf(6, longestKey), 1, 2, 3, 4, 5, 6, 7)},
		{"an inner one with octets above 127", inner(list("\x00", "\x7f\xff", "\x80", "\xff"), 9, 8, 7, 6, 5)},
		{"as many keys as go in", innerOf(mostInner)},
		{"as many keys as go in, full", withKey(innerOf(mostInner), mostInner-1, "\xff\x00\xff\x00\xff")},
	}
	for n := range mostPairs {
		l = append(l, named{fmt.Sprintf("%d pairs", n), leafOf(n, min(3, (mostOctets-2)/(n+1)-3))})
	}
	for n := 1; n < mostInner; n++ {
		l = append(l, named{fmt.Sprintf("%d keys", n), innerOf(n)})
	}
	return append(l, exact(mostOctets)...)
}

// exact are nodes of just so many octets, of all shapes that the others here have.
func exact(octets int) []named {
	long := leaf(keysOf(3, longestKey), list(text(longestValue), text(longestValue), ""))
	keys := inner(append(keysOf(6, longestKey), "\xff"), 1, 2, 3, 4, 5, 6, 7, 8)
	return []named{
		{"two long pairs and one", withValue(long, 2, text(octets-sizeOf(long)))},
		{"many pairs and one longer", withValue(leafOf(70, 0), 69, text(octets-sizeOf(leafOf(70, 0))))},
		{"many pairs and a longer key", withKey(leafOf(75, 0), 74, "\xff"+text(octets-sizeOf(leafOf(75, 0))))},
		{"six long keys and one", withKey(keys, 6, "\xff"+text(octets-sizeOf(keys)))},
		{"many keys and one longer", withKey(innerOf(38), 37, "\xff"+text(octets-sizeOf(innerOf(38))))},
	}
}

// outside are numbers that no page has.
func outside() []int {
	return []int{0, -1, -2, -topPage, topPage + 1, topPage + 2, 2 * topPage, 1 << 31, 1<<32 - 1, 1 << 32, 1<<32 + 1, 1 << 62,
		math.MaxInt, math.MinInt, math.MinInt + 1}
}

// refused is a node that may not be, and the error that it has.
type refused struct {
	named
	want api.Errno
}

// badKeys are lists of keys that no node has.
func badKeys() [][]string {
	return [][]string{
		{""}, {"", "a"}, {"a", ""}, {"a", "", "b"}, {"a", "b", ""},
		{text(longestKey + 1)}, {"a", text(longestKey + 1)}, {text(longestKey + 1), "z"}, {"a", text(300), "z"}, {text(256)}, {text(1 << 16)},
		{"a", "a"}, {"\xff", "\xff"}, {text(longestKey), text(longestKey)}, {"a", "b", "b"}, {"a", "a", "b"},
		{"b", "a"}, {"a", "c", "b"}, {"c", "a", "b"}, {"b", "c", "a"}, {"z", "\x00"},
		{"keyB", "keyA"}, {"keya", "keyB"}, {text(31) + "\x01", text(31) + "\x00"},
		{"kk", "k"}, {"k\x00", "k"}, {"kkk", "kk", "k"},
		{"\x80", "\x7f"}, {"\xff", "a"}, {"\xff\xff", "\xff"}, {"\xc3\x28", "\x80"}, {"a\xff", "a\x7f"},
		{"b", "aaaa"},
	}
}

// mayNotBe are nodes with one thing wrong.
func mayNotBe() []refused {
	var l []refused
	add := func(want api.Errno, what string, n node.Node) {
		l = append(l, refused{named{what, n}, want})
	}
	for _, keys := range badKeys() {
		add(api.ErrKey, fmt.Sprintf("a leaf with keys %.40q", keys), leaf(keys, make([]string, len(keys))))
		add(api.ErrKey, fmt.Sprintf("an inner one with keys %.40q", keys), inner(keys, slices.Repeat([]int{5}, len(keys)+1)...))
	}
	three := leafOf(3, 1)
	for _, n := range []int{0, 1, 2, 4, 5, 300} {
		add(api.ErrCount, fmt.Sprintf("3 keys, %d values", n), leaf(three.Keys, make([]string, n)))
	}
	add(api.ErrCount, "a value without a key", leaf(nil, list("v")))
	add(api.ErrCount, "a key without a value", leaf(list("k"), nil))
	for _, kids := range [][]int{{1}, {1, 2}, {1, 2, 3, 4}} {
		add(api.ErrCount, "a leaf with Kids", node.Node{Leaf: true, Keys: three.Keys, Values: three.Values, Kids: kids})
		add(api.ErrCount, "a leaf without keys, with Kids", node.Node{Leaf: true, Kids: kids})
	}
	add(api.ErrCount, "nothing", node.Node{})
	add(api.ErrCount, "an inner one without keys, with lists", node.Node{Keys: []string{}, Values: []string{}, Kids: []int{}})
	for n := range 7 {
		if n != 4 {
			add(api.ErrCount, fmt.Sprintf("3 keys, %d Kids", n), inner(three.Keys, slices.Repeat([]int{9}, n)...))
		}
	}
	for n := 1; n < 4; n++ {
		add(api.ErrCount, fmt.Sprintf("no keys, %d Kids", n), inner(nil, slices.Repeat([]int{9}, n)...))
		add(api.ErrCount, fmt.Sprintf("an inner one with %d values", n), node.Node{Keys: three.Keys, Values: make([]string, n), Kids: numbers(1, 2, 3, 4)})
	}
	for _, n := range []int{longestValue + 1, longestValue + 2, 128, 200} {
		for at := range 3 {
			add(api.ErrLong, fmt.Sprintf("value %d of %d octets", at, n), withValue(three, at, text(n)))
		}
		add(api.ErrLong, fmt.Sprintf("a value alone of %d octets", n), leaf(list("k"), list(text(n))))
	}
	for _, kid := range outside() {
		for at := range 4 {
			add(api.ErrRange, fmt.Sprintf("Kid %d is %d", at, kid), withKid(innerOf(3), at, kid))
		}
	}
	add(api.ErrFull, "one pair more than goes in", leafOf(mostPairs+1, 0))
	add(api.ErrFull, "the greatest pairs", leaf(keysOf(3, longestKey), list(text(longestValue), text(longestValue), text(longestValue))))
	add(api.ErrFull, "one key more than goes in", innerOf(mostInner+1))
	for _, n := range slices.Concat(exact(mostOctets+1), exact(mostOctets+2), exact(mostOctets+6)) {
		add(api.ErrFull, fmt.Sprintf("%d octets: %s", sizeOf(n.Node), n.what), n.Node)
	}
	return l
}

// TestExample is the chapter's.
func TestExample(t *testing.T) {
	want := []byte{1, 1, 1, 0x61, 1, 0x78}
	if b, err := node.Encode(leaf(list("a"), list("x"))); err != api.OK || !bytes.Equal(b, want) {
		t.Errorf("Encode of a = x: % x, %d; want % x", b, err, want)
	}
}

func wantDecode(t *testing.T, what string, b []byte, want node.Node) {
	t.Helper()
	if got, err := node.Decode(b); err != api.OK || !same(got, want) {
		t.Errorf("Decode of %s: %s, %d; want %s", what, show(got), err, show(want))
	}
}

// wantNotDecoded: beside the error nothing else is told.
func wantNotDecoded(t *testing.T, what string, b []byte, want api.Errno) {
	t.Helper()
	if got, err := node.Decode(b); err != want || !same(got, node.Node{}) {
		t.Errorf("Decode of %s: %s, %d; want %d alone", what, show(got), err, want)
	}
}

// TestP9_1ByHand: every octet written out, so that no helper of this file can share a fault with the program.
func TestP9_1ByHand(t *testing.T) {
	for _, c := range []struct {
		n node.Node
		b []byte
	}{
		{leaf(nil, nil), []byte{1, 0}},
		{leaf(list("a"), list("")), []byte{1, 1, 1, 'a', 0}},
		{leaf(list("a", "bc"), list("xyz", "\xff")), []byte{1, 2, 1, 'a', 3, 'x', 'y', 'z', 2, 'b', 'c', 1, 0xff}},
		{inner(list("m"), 1, topPage), []byte{0, 1, 0, 0, 0, 1, 1, 'm', 0, 1, 0, 0}},
		{inner(list("m", "no"), 0x1234, 0xfedc, 2), []byte{0, 2, 0, 0, 0x12, 0x34, 1, 'm', 0, 0, 0xfe, 0xdc, 2, 'n', 'o', 0, 0, 0, 2}},
	} {
		if b, err := node.Encode(c.n); err != api.OK || !bytes.Equal(b, c.b) {
			t.Errorf("Encode of %s: % x, %d; want % x", show(c.n), b, err, c.b)
		}
		if size := node.Size(c.n); size != len(c.b) {
			t.Errorf("Size of %s: %d; want %d", show(c.n), size, len(c.b))
		}
		wantDecode(t, fmt.Sprintf("% x", c.b), c.b, c.n)
	}
}

func TestP9_1Encode(t *testing.T) {
	for _, n := range mayBe() {
		want := laid(n.Node)
		if b, err := node.Encode(n.Node); err != api.OK || !bytes.Equal(b, want) {
			t.Errorf("Encode of %s: % x, %d; want % x", n.what, b, err, want)
		}
		if size := node.Size(n.Node); size != len(want) {
			t.Errorf("Size of %s: %d; want %d", n.what, size, len(want))
		}
	}
}

// TestP9_1Size: the chapter's sum holds for a node that may not be, too.
func TestP9_1Size(t *testing.T) {
	keys := list("k", "key", "")
	for _, c := range []struct {
		what string
		n    node.Node
		want int
	}{
		{"nothing", node.Node{}, 2},
		{"a leaf without keys", leaf(nil, nil), 2},
		{"a leaf without values", leaf(keys, nil), 2 + 6 + 4},
		{"a leaf with one value", leaf(keys, list("value")), 2 + 6 + 4 + 5},
		{"a leaf with two values", leaf(keys, list("", "value")), 2 + 6 + 4 + 5},
		{"a leaf with all values", leaf(keys, list("a", "bc", "def")), 2 + 6 + 4 + 6},
		{"a leaf with a value more", leaf(keys, list("a", "bc", "def", "more")), 2 + 6 + 4 + 6},
		{"a leaf with values alone", leaf(nil, list("a", "b")), 2},
		{"a leaf with Kids", node.Node{Leaf: true, Keys: keys, Values: list("a"), Kids: numbers(1, 2, 3)}, 2 + 6 + 4 + 1},
		{"an inner one", inner(keys, 1, 2, 3, 4), 2 + 16 + 3 + 4},
		{"an inner one without Kids", inner(keys), 2 + 3 + 4},
		{"an inner one without keys", inner(nil, 0, -1, math.MaxInt, math.MinInt, 1), 2 + 20},
		{"an inner one with values", node.Node{Keys: keys, Values: list("a", "bc", "d"), Kids: numbers(7)}, 2 + 4 + 3 + 4},
		{"long texts", leaf(list(text(300), text(1<<16)), list(text(1<<17), text(5))), 2 + 4 + 300 + 1<<16 + 1<<17 + 5},
		{"many keys", leaf(slices.Repeat(list("k"), 1<<16), nil), 2 + 3<<16},
		{"many Kids", inner(nil, make([]int, 1<<16)...), 2 + 4<<16},
	} {
		if size := node.Size(c.n); size != c.want {
			t.Errorf("Size of %s: %d; want %d", c.what, size, c.want)
		}
	}
	for _, n := range mayNotBe() {
		if size := node.Size(n.Node); size != sizeOf(n.Node) {
			t.Errorf("Size of %s: %d; want %d", n.what, size, sizeOf(n.Node))
		}
	}
}

func TestP9_2Check(t *testing.T) {
	for _, n := range mayBe() {
		if err := node.Check(n.Node); err != api.OK {
			t.Errorf("Check of %s: %d", n.what, err)
		}
	}
	for _, n := range mayNotBe() {
		if err := node.Check(n.Node); err != n.want {
			t.Errorf("Check of %s: %d; want %d", n.what, err, n.want)
		}
	}
}

// TestP9_2Full: 244 octets may be, one more may not, whatever they are made of.
func TestP9_2Full(t *testing.T) {
	for _, c := range []struct {
		octets int
		want   api.Errno
	}{{mostOctets - 1, api.OK}, {mostOctets, api.OK}, {mostOctets + 1, api.ErrFull}} {
		for _, n := range exact(c.octets) {
			if size := node.Size(n.Node); size != c.octets {
				t.Errorf("Size of %s: %d; want %d", n.what, size, c.octets)
			}
			if err := node.Check(n.Node); err != c.want {
				t.Errorf("Check of %s, %d octets: %d; want %d", n.what, c.octets, err, c.want)
			}
		}
	}
}

// TestP9_2CheckCapacity: what stands behind a list's end is not there.
func TestP9_2CheckCapacity(t *testing.T) {
	l := leaf(list("b", "a")[:1], list("v", text(100))[:1])
	l.Kids = numbers(0)[:0]
	m := inner(list("b", "a")[:1], numbers(1, 2, 0)[:2]...)
	for _, n := range []node.Node{l, m} {
		if err := node.Check(n); err != api.OK {
			t.Errorf("Check with what may not be behind the ends: %d", err)
		}
	}
}

// fault does one thing wrong to a node.
type fault struct {
	err api.Errno
	do  func(n *node.Node)
}

// leafFaults are in the chapter's order; a leaf with Kids has a wrong number of them, whatever they are.
func leafFaults() []fault {
	return []fault{
		{api.ErrKey, func(n *node.Node) { n.Keys = append(list(""), n.Keys[1:]...) }},
		{api.ErrKey, func(n *node.Node) { n.Keys = append(slices.Clone(n.Keys[:len(n.Keys)-1]), n.Keys[0]) }},
		{api.ErrKey, func(n *node.Node) { n.Keys = append(slices.Clone(n.Keys[:len(n.Keys)-1]), "z"+text(longestKey)) }},
		{api.ErrCount, func(n *node.Node) { n.Kids = numbers(0, topPage+1) }},
		{api.ErrCount, func(n *node.Node) { n.Values = append(slices.Clone(n.Values), "more") }},
		{api.ErrLong, func(n *node.Node) {
			n.Values = append(slices.Clone(n.Values[:1]), append(list(text(65)), n.Values[2:]...)...)
		}},
		{api.ErrFull, func(n *node.Node) {
			for i := range n.Values[3:] {
				n.Values[3+i] = text(longestValue)
			}
		}},
	}
}

// innerFaults are in the chapter's order; an inner node with a value that is too long has a value too many.
func innerFaults() []fault {
	return []fault{
		{api.ErrKey, func(n *node.Node) { n.Keys = append(list(""), n.Keys[1:]...) }},
		{api.ErrKey, func(n *node.Node) { n.Keys = append(slices.Clone(n.Keys[:len(n.Keys)-1]), n.Keys[0]) }},
		{api.ErrCount, func(n *node.Node) { n.Values = list(text(65)) }},
		{api.ErrCount, func(n *node.Node) { n.Kids = append(slices.Clone(n.Kids), 1) }},
		{api.ErrRange, func(n *node.Node) { n.Kids = append(numbers(0), n.Kids[1:]...) }},
		{api.ErrFull, func(n *node.Node) {
			for i := range 8 {
				n.Keys[i] = "\x01" + string(rune('a'+i)) + text(30)
			}
		}},
	}
}

// TestP9_2CheckOrder: every set of faults at once.
func TestP9_2CheckOrder(t *testing.T) {
	for _, c := range []struct {
		what   string
		make   func() node.Node
		faults []fault
	}{
		{"a leaf", func() node.Node { return leafOf(10, 1) }, leafFaults()},
		{"an inner one", func() node.Node { return innerOf(10) }, innerFaults()},
	} {
		for set := range 1 << len(c.faults) {
			n := c.make()
			want := api.OK
			// The last fault first: those ahead of it change lists that it has made already.
			for i, f := range slices.Backward(c.faults) {
				if set>>i&1 == 1 {
					f.do(&n)
					want = f.err
				}
			}
			if err := node.Check(n); err != want {
				t.Errorf("Check of %s with faults %b: %d; want %d", c.what, set, err, want)
			}
			if want != api.OK {
				wantAllRefused(t, fmt.Sprintf("%s with faults %b", c.what, set), n, want)
			}
		}
	}
}

// wantAllRefused: Encode, Find and Split tell Check's error and nothing beside it.
func wantAllRefused(t *testing.T, what string, n node.Node, want api.Errno) {
	t.Helper()
	if b, err := node.Encode(n); err != want || len(b) != 0 {
		t.Errorf("Encode of %s: % x, %d; want %d alone", what, b, err, want)
	}
	for _, key := range append(list("", "a", "zz", text(40)), n.Keys...) {
		if at, found, err := node.Find(n, key); err != want || at != 0 || found {
			t.Errorf("Find of %.40q in %s: %d, %t, %d; want %d alone", key, what, at, found, err, want)
		}
	}
	if a, key, b, err := node.Split(n); err != want || key != "" || !same(a, node.Node{}) || !same(b, node.Node{}) {
		t.Errorf("Split of %s: %s, %.40q, %s, %d; want %d alone", what, show(a), key, show(b), err, want)
	}
}

func TestCheckFirst(t *testing.T) {
	for _, n := range mayNotBe() {
		wantAllRefused(t, n.what, n.Node, n.want)
	}
}

func TestP9_2Decode(t *testing.T) {
	for _, n := range mayBe() {
		wantDecode(t, n.what, laid(n.Node), n.Node)
	}
}

// tellable says whether octets can tell that node: how many keys, how long the texts, which Kids.
func tellable(n node.Node) bool {
	tooLong := func(s string) bool { return len(s) > 255 }
	tooHigh := func(kid int) bool { return kid < 0 || kid > 1<<32-1 }
	if slices.ContainsFunc(n.Keys, tooLong) || slices.ContainsFunc(n.Values, tooLong) || slices.ContainsFunc(n.Kids, tooHigh) {
		return false
	}
	if n.Leaf {
		return len(n.Keys) < 256 && len(n.Values) == len(n.Keys) && len(n.Kids) == 0
	}
	return len(n.Keys) < 256 && len(n.Values) == 0 && len(n.Kids) == len(n.Keys)+1
}

// TestP9_2DecodeCheck: octets that are all there, of a node that may not be; with one fewer or one more that comes first.
func TestP9_2DecodeCheck(t *testing.T) {
	told := map[api.Errno]int{}
	for _, n := range mayNotBe() {
		if !tellable(n.Node) {
			continue
		}
		told[n.want]++
		b := laid(n.Node)
		wantNotDecoded(t, n.what, b, n.want)
		wantNotDecoded(t, n.what+" with one more octet", append(slices.Clone(b), 1), api.ErrTail)
		wantNotDecoded(t, n.what+" with one octet fewer", b[:len(b)-1], api.ErrShort)
	}
	for _, err := range []api.Errno{api.ErrKey, api.ErrCount, api.ErrLong, api.ErrRange, api.ErrFull} {
		if told[err] == 0 {
			t.Errorf("no octets tell a node with error %d", err)
		}
	}
	wantNotDecoded(t, "an inner one without keys", []byte{0, 0, 0, 0, 0, 1}, api.ErrCount)
	wantNotDecoded(t, "a key of 33 octets", slices.Concat([]byte{1, 1, 33}, []byte(text(33)), []byte{0}), api.ErrKey)
	wantNotDecoded(t, "a key of 255 octets", slices.Concat([]byte{1, 1, 255}, []byte(text(255)), []byte{0}), api.ErrKey)
	wantNotDecoded(t, "a value of 65 octets", slices.Concat([]byte{1, 1, 1, 'k', 65}, []byte(text(65))), api.ErrLong)
	wantNotDecoded(t, "a value of 255 octets", slices.Concat([]byte{1, 1, 1, 'k', 255}, []byte(text(255))), api.ErrLong)
	wantNotDecoded(t, "a Kid at the highest", []byte{0, 1, 255, 255, 255, 255, 1, 'k', 0, 0, 0, 1}, api.ErrRange)
	wantNotDecoded(t, "255 empty keys", append([]byte{1, 255}, make([]byte, 510)...), api.ErrKey)
}

// TestP9_2DecodeShort: cut off at every place, it ends ahead.
func TestP9_2DecodeShort(t *testing.T) {
	wantNotDecoded(t, "nil", nil, api.ErrShort)
	wantNotDecoded(t, "no octets", []byte{}, api.ErrShort)
	for _, n := range mayBe() {
		b := laid(n.Node)
		for end := range b {
			wantNotDecoded(t, fmt.Sprintf("%s cut off at %d", n.what, end), b[:end:end], api.ErrShort)
			wantNotDecoded(t, fmt.Sprintf("%s cut off at %d, the rest behind", n.what, end), b[:end], api.ErrShort)
		}
	}
}

// TestP9_2DecodeTail: what is left may be anything, the rest of another node too.
func TestP9_2DecodeTail(t *testing.T) {
	for _, n := range mayBe() {
		b := laid(n.Node)
		for _, tail := range [][]byte{{0}, {1}, {255}, {0, 0}, b, make([]byte, 300)} {
			wantNotDecoded(t, fmt.Sprintf("%s with %d octets behind", n.what, len(tail)), slices.Concat(b, tail), api.ErrTail)
		}
	}
}

// TestP9_2DecodeKind: one octet alone ends ahead, whatever it is; behind two the first one tells how to go on.
func TestP9_2DecodeKind(t *testing.T) {
	for kind := range 256 {
		wantNotDecoded(t, fmt.Sprintf("%d alone", kind), []byte{byte(kind)}, api.ErrShort)
		if kind < 2 {
			continue
		}
		for _, rest := range [][]byte{{0}, {1}, {255}, {0, 0, 0, 0, 1}, {1, 1, 'k', 0}, make([]byte, 300)} {
			wantNotDecoded(t, fmt.Sprintf("kind %d with % .20x", kind, rest), append([]byte{byte(kind)}, rest...), api.ErrKind)
		}
		for _, n := range mayBe()[:30] {
			b := laid(n.Node)
			b[0] = byte(kind)
			wantNotDecoded(t, fmt.Sprintf("%s of kind %d", n.what, kind), b, api.ErrKind)
		}
	}
}

// TestP9_2DecodeCount: more keys than the octets hold, and fewer.
func TestP9_2DecodeCount(t *testing.T) {
	for _, n := range mayBe() {
		b := laid(n.Node)
		for count := range 256 {
			want := api.OK
			switch {
			case count > len(n.Keys):
				want = api.ErrShort
			case count < len(n.Keys):
				want = api.ErrTail
			}
			b[1] = byte(count)
			if got, err := node.Decode(b); err != want {
				t.Errorf("Decode of %s with %d keys told: %s, %d; want %d", n.what, count, show(got), err, want)
			}
		}
	}
}

// wantLikeUnlaid: Decode answers what the other hand answers, and what it takes is Encode of it.
func wantLikeUnlaid(t *testing.T, b []byte) api.Errno {
	t.Helper()
	want, wantErr := unlaid(b)
	n, err := node.Decode(b)
	if err != wantErr || !same(n, want) {
		t.Errorf("Decode of % x: %s, %d; want %s, %d", b, show(n), err, show(want), wantErr)
	}
	if err == api.OK {
		if back, err := node.Encode(n); err != api.OK || !bytes.Equal(back, b) {
			t.Errorf("Encode of what Decode took of % x: % x, %d", b, back, err)
		}
	}
	return err
}

// TestP9_4EveryOctet: every octet turned to every value.
func TestP9_4EveryOctet(t *testing.T) {
	told := map[api.Errno]int{}
	for i, n := range mayBe() {
		b := laid(n.Node)
		// Each shape of the great ones once is enough.
		if len(b) > 40 && i%24 != 0 {
			continue
		}
		for at, was := range b {
			for to := range 256 {
				b[at] = byte(to)
				told[wantLikeUnlaid(t, b)]++
			}
			b[at] = was
		}
	}
	for _, err := range []api.Errno{api.OK, api.ErrShort, api.ErrKind, api.ErrTail, api.ErrKey, api.ErrRange} {
		if told[err] == 0 {
			t.Errorf("no octets were answered %d", err)
		}
	}
}

// dice answers numbers below n, the same ones for the same seed.
func dice(seed uint64) func(n int) int {
	return func(n int) int {
		seed = seed*6364136223846793005 + 1442695040888963407
		return int(seed>>33) % n
	}
}

// TestP9_4Octets: octets by chance, low ones mostly, so that some are nodes.
func TestP9_4Octets(t *testing.T) {
	roll := dice(94)
	taken := 0
	for range 200000 {
		b := make([]byte, roll(14))
		for i := range b {
			b[i] = byte(roll(3))
			if roll(12) == 0 {
				b[i] = byte(roll(256))
			}
		}
		if wantLikeUnlaid(t, b) == api.OK {
			taken++
		}
	}
	if taken < 100 {
		t.Errorf("only %d of them are nodes", taken)
	}
}

// nodeOf answers a node by chance, one that may be mostly.
func nodeOf(roll func(n int) int) node.Node {
	chance := func(most int) string {
		b := make([]byte, roll(most+1))
		for i := range b {
			b[i] = byte("\x00a\x80\xff"[roll(4)])
		}
		return string(b)
	}
	n := node.Node{Leaf: roll(2) == 0}
	for range roll(12) {
		n.Keys = append(n.Keys, chance(3+roll(2)*roll(31)))
	}
	if roll(10) > 0 {
		slices.Sort(n.Keys)
		n.Keys = slices.DeleteFunc(slices.Compact(n.Keys), func(key string) bool { return key == "" })
	}
	for range len(n.Keys) {
		n.Values = append(n.Values, chance(4+roll(2)*roll(62)))
		n.Kids = append(n.Kids, 1+roll(topPage+1))
	}
	if n.Leaf {
		n.Kids = nil
		return n
	}
	n.Values = nil
	n.Kids = append(n.Kids, roll(300))
	return n
}

// TestP9_4Back: Decode of Encode is the node.
func TestP9_4Back(t *testing.T) {
	roll := dice(4)
	nodes := mayBe()
	for range 20000 {
		nodes = append(nodes, named{"one by chance", nodeOf(roll)})
	}
	may := 0
	for _, n := range nodes {
		want := firstFault(n.Node)
		if err := node.Check(n.Node); err != want {
			t.Errorf("Check of %s: %s: %d; want %d", n.what, show(n.Node), err, want)
		}
		b, err := node.Encode(n.Node)
		if err != want {
			t.Errorf("Encode of %s: %s: %d; want %d", n.what, show(n.Node), err, want)
		}
		if want != api.OK {
			continue
		}
		may++
		wantDecode(t, n.what, b, n.Node)
		wantFind(t, n)
		wantSplit(t, n)
	}
	if may < 5000 {
		t.Errorf("only %d of them may be", may)
	}
}

// asked are keys on, below, between and above those of n, and some that no node has.
func asked(n node.Node) []string {
	l := list("", "\x00", "a", "z", "\xff", text(longestKey), text(longestKey+1), strings.Repeat("\xff", 300))
	for _, key := range n.Keys {
		end := len(key) - 1
		l = append(l, key, key+"\x00", key+"\xff", key[:end], key[:end]+string([]byte{key[end] - 1}), key[:end]+string([]byte{key[end] + 1}))
	}
	return l
}

func wantFind(t *testing.T, n named) {
	t.Helper()
	for _, key := range asked(n.Node) {
		want, is := 0, false
		for _, k := range n.Keys {
			switch c := bytes.Compare([]byte(k), []byte(key)); {
			case c < 0:
				want++
			case c == 0:
				is = true
				if !n.Leaf {
					want++
				}
			}
		}
		if at, found, err := node.Find(n.Node, key); err != api.OK || at != want || found != is {
			t.Errorf("Find of %.50q in %s: %d, %t, %d; want %d, %t", key, n.what, at, found, err, want, is)
		}
	}
}

func TestP9_3Find(t *testing.T) {
	for _, n := range mayBe() {
		wantFind(t, n)
	}
}

// TestP9_3FindByHand: what the chapter's words say, in numbers.
func TestP9_3FindByHand(t *testing.T) {
	l := leaf(list("b", "d", "f"), list("1", "2", "3"))
	m := inner(list("b", "d", "f"), 1, 2, 3, 4)
	for _, c := range []struct {
		key     string
		inLeaf  int
		inInner int
		found   bool
	}{
		{"", 0, 0, false}, {"a", 0, 0, false}, {"azz", 0, 0, false}, {"b", 0, 1, true}, {"b\x00", 1, 1, false},
		{"c", 1, 1, false}, {"d", 1, 2, true}, {"dd", 2, 2, false}, {"e", 2, 2, false}, {"f", 2, 3, true},
		{"ff", 3, 3, false}, {"\x80", 3, 3, false}, {"\xff\xff", 3, 3, false}, {text(1000), 3, 3, false},
	} {
		if at, found, err := node.Find(l, c.key); err != api.OK || at != c.inLeaf || found != c.found {
			t.Errorf("Find of %.20q in a leaf: %d, %t, %d; want %d, %t", c.key, at, found, err, c.inLeaf, c.found)
		}
		if at, found, err := node.Find(m, c.key); err != api.OK || at != c.inInner || found != c.found {
			t.Errorf("Find of %.20q in an inner one: %d, %t, %d; want %d, %t", c.key, at, found, err, c.inInner, c.found)
		}
	}
	if at, found, err := node.Find(leaf(nil, nil), "k"); err != api.OK || at != 0 || found {
		t.Errorf("Find in a leaf without keys: %d, %t, %d", at, found, err)
	}
}

// wantSplit: the halves by the chapter's words, all keys in order, and each may be.
func wantSplit(t *testing.T, n named) {
	t.Helper()
	a, key, b, err := node.Split(n.Node)
	if len(n.Keys) < 2 || !n.Leaf && len(n.Keys) < 3 {
		if err != api.ErrCount || key != "" || !same(a, node.Node{}) || !same(b, node.Node{}) {
			t.Errorf("Split of %s: %s, %q, %s, %d; want %d alone", n.what, show(a), key, show(b), err, api.ErrCount)
		}
		return
	}
	if err != api.OK || a.Leaf != n.Leaf || b.Leaf != n.Leaf {
		t.Errorf("Split of %s: %s, %q, %s, %d", n.what, show(a), key, show(b), err)
		return
	}
	for _, half := range []node.Node{a, b} {
		if err := node.Check(half); err != api.OK || firstFault(half) != api.OK {
			t.Errorf("Split of %s: Check of the half %s: %d", n.what, show(half), err)
		}
	}
	joined := slices.Concat(a.Keys, b.Keys)
	first := len(n.Keys) / 2
	if n.Leaf {
		if len(b.Keys) == 0 || key != b.Keys[0] {
			t.Errorf("Split of %s: key %q; want the first of %q", n.what, key, b.Keys)
		}
	} else {
		joined = slices.Concat(a.Keys, list(key), b.Keys)
	}
	if len(a.Keys) != first || !slices.Equal(joined, n.Keys) {
		t.Errorf("Split of %s: keys %q, %q, %q; want %d of %q ahead", n.what, a.Keys, key, b.Keys, first, n.Keys)
	}
	if !slices.Equal(slices.Concat(a.Values, b.Values), n.Values) || !slices.Equal(slices.Concat(a.Kids, b.Kids), n.Kids) {
		t.Errorf("Split of %s: %s and %s; not all of %s", n.what, show(a), show(b), show(n.Node))
	}
}

func TestP9_5Split(t *testing.T) {
	for _, n := range mayBe() {
		wantSplit(t, n)
	}
	for n := range mostPairs + 1 {
		wantSplit(t, named{fmt.Sprintf("a leaf of %d", n), leafOf(n, 0)})
	}
	for n := 1; n <= mostInner; n++ {
		wantSplit(t, named{fmt.Sprintf("an inner one of %d", n), innerOf(n)})
	}
}

// TestP9_3SplitByHand: the halves of small nodes written out.
func TestP9_3SplitByHand(t *testing.T) {
	keys, values, kids := list("a", "b", "c", "d", "e", "f"), list("1", "2", "3", "4", "5", "6"), numbers(10, 11, 12, 13, 14, 15, 16)
	pairs := func(from, to int) node.Node { return leaf(keys[from:to], values[from:to]) }
	for _, c := range []struct {
		n, a node.Node
		key  string
		b    node.Node
	}{
		{pairs(0, 2), pairs(0, 1), "b", pairs(1, 2)},
		{pairs(0, 3), pairs(0, 1), "b", pairs(1, 3)},
		{pairs(0, 4), pairs(0, 2), "c", pairs(2, 4)},
		{pairs(0, 5), pairs(0, 2), "c", pairs(2, 5)},
		{pairs(0, 6), pairs(0, 3), "d", pairs(3, 6)},
		{inner(keys[:3], kids[:4]...), inner(list("a"), 10, 11), "b", inner(list("c"), 12, 13)},
		{inner(keys[:4], kids[:5]...), inner(list("a", "b"), 10, 11, 12), "c", inner(list("d"), 13, 14)},
		{inner(keys[:5], kids[:6]...), inner(list("a", "b"), 10, 11, 12), "c", inner(list("d", "e"), 13, 14, 15)},
		{inner(keys[:6], kids...), inner(list("a", "b", "c"), 10, 11, 12, 13), "d", inner(list("e", "f"), 14, 15, 16)},
	} {
		if a, key, b, err := node.Split(c.n); err != api.OK || !same(a, c.a) || key != c.key || !same(b, c.b) {
			t.Errorf("Split of %s: %s, %q, %s, %d; want %s, %q, %s", show(c.n), show(a), key, show(b), err, show(c.a), c.key, show(c.b))
		}
	}
	for _, n := range []node.Node{pairs(0, 0), pairs(0, 1), inner(keys[:1], kids[:2]...), inner(keys[:2], kids[:3]...)} {
		if a, key, b, err := node.Split(n); err != api.ErrCount || !same(a, node.Node{}) || key != "" || !same(b, node.Node{}) {
			t.Errorf("Split of %s: %s, %q, %s, %d; want %d alone", show(n), show(a), key, show(b), err, api.ErrCount)
		}
	}
}

// TestNilAndEmpty: nil and empty lists are one to every call.
func TestNilAndEmpty(t *testing.T) {
	bare := []node.Node{leaf(nil, nil), inner(nil), inner(list("m"), 1, 2), inner(nil, 1)}
	for _, n := range bare {
		m := node.Node{Leaf: n.Leaf, Keys: append([]string{}, n.Keys...), Values: []string{}, Kids: append([]int{}, n.Kids...)}
		if node.Check(n) != node.Check(m) || node.Size(n) != node.Size(m) {
			t.Errorf("Check or Size of %s: nil and empty are not one", show(n))
		}
		b, err := node.Encode(n)
		c, errC := node.Encode(m)
		if err != errC || !bytes.Equal(b, c) {
			t.Errorf("Encode of %s: % x, %d; with empty lists % x, %d", show(n), b, err, c, errC)
		}
		at, found, err := node.Find(n, "m")
		atM, foundM, errM := node.Find(m, "m")
		if at != atM || found != foundM || err != errM {
			t.Errorf("Find in %s: %d, %t, %d; with empty lists %d, %t, %d", show(n), at, found, err, atM, foundM, errM)
		}
	}
}

// TestSameAgain: the same arguments, the same answers, from many goroutines at once too.
func TestSameAgain(t *testing.T) {
	n := leafOf(40, 2)
	want := laid(n)
	var all sync.WaitGroup
	for range 8 {
		all.Go(func() {
			for range 200 {
				b, err := node.Encode(n)
				m, errD := node.Decode(want)
				a, key, c, errS := node.Split(n)
				if err != api.OK || errD != api.OK || errS != api.OK || !bytes.Equal(b, want) || !same(m, n) ||
					!slices.Equal(slices.Concat(a.Keys, c.Keys), n.Keys) || key != c.Keys[0] {
					t.Error("another answer beside other goroutines")
					return
				}
			}
		})
	}
	all.Wait()
}
