package memory_test

import (
	"strings"
	"testing"

	"transept/api"
	"transept/node"
)

// treeNodes are leaves and inner nodes, some of which may not be.
func treeNodes() []node.Node {
	keys := []string{"a", "bc", "d", "\xfe\xff", "\xff"}
	values := []string{"1", "", strings.Repeat("v", 64), "x", "y"}
	kids := []int{9, 1, 65536, 300, 300, 7}
	var l []node.Node
	for n := range len(keys) + 1 {
		l = append(l,
			node.Node{Leaf: true, Keys: keys[:n], Values: values[:n]},
			node.Node{Leaf: true, Keys: keys[:n], Values: values[:n], Kids: []int{}},
			node.Node{Keys: keys[:n], Kids: kids[:n+1]},
			node.Node{Keys: keys[:n], Values: []string{}, Kids: kids[:n+1]})
	}
	return append(l,
		node.Node{},
		node.Node{Leaf: true, Keys: keys, Values: values, Kids: kids},
		node.Node{Leaf: true, Keys: keys, Values: values[1:]},
		node.Node{Leaf: true, Keys: keys[:1], Values: []string{strings.Repeat("v", 65)}},
		node.Node{Keys: values, Kids: kids},
		node.Node{Keys: keys, Kids: kids[1:]},
		node.Node{Keys: keys[:1], Kids: []int{0, 1}})
}

func TestP9_6Memory(t *testing.T) {
	may := 0
	for _, n := range treeNodes() {
		if node.Check(n) == api.OK {
			may++
		}
		hold(t, "Check", node.Check, n)
		hold(t, "Size", node.Size, n)
		hold(t, "Encode", node.Encode, n)
		hold(t, "Split", node.Split, n)
		for _, key := range []string{"", "a", "c", "d", "\xff\xff"} {
			hold(t, "Find", node.Find, n, key)
		}
		// What cannot be told is no octets, which Decode refuses.
		b, _ := node.Encode(n)
		hold(t, "Decode", node.Decode, b)
		hold(t, "Decode", node.Decode, append(b, 0))
		hold(t, "Decode", node.Decode, b[:len(b)/2])
	}
	if may < 20 {
		t.Errorf("of the nodes only %d may be", may)
	}
	for _, b := range [][]byte{nil, {}, {1}, {2, 0}, {0, 0, 0, 0, 0, 1}, {1, 1, 0, 0}} {
		hold(t, "Decode", node.Decode, b)
	}
}
