package memory_test

import (
	"fmt"
	"math"
	"strings"
	"testing"

	"transept/api"
	"transept/tree"
)

// keyed answers what a call for key is made with.
func keyed(i int) string {
	return fmt.Sprintf("%03d", i) + strings.Repeat("k", i%29)
}

// trees are stores that puts and deletes made, with other pages beside them, and some that may not be.
func trees(t *testing.T) []tree.Tree {
	t.Helper()
	l := []tree.Tree{{}, tree.New(), {Next: 1, Pages: []tree.Page{}}, {Next: api.MaxPages}}
	x := tree.New()
	for i := range 60 {
		var err api.Errno
		if x, err = tree.Put(x, keyed(i*37%60), strings.Repeat("v", i%65)); err != api.OK {
			t.Fatal("Put:", err)
		}
		if i%13 == 12 {
			l = append(l, x)
		}
	}
	for i := range 60 {
		x, _, _ = tree.Delete(x, keyed(i))
		if i%13 == 12 {
			l = append(l, x)
		}
	}
	l = append(l, x)
	beside := l[7]
	beside.Pages = append(append([]tree.Page{}, beside.Pages...), tree.Page{ID: 900, Data: []byte("beside")}, tree.Page{ID: 901}, tree.Page{ID: 902, Data: []byte{}})
	beside.Next = 903
	full, wrong, lost := beside, beside, beside
	full.Next = api.MaxPages
	wrong.Root = 900
	lost.Pages = lost.Pages[1:]
	lost.Root = 899
	return append(l, beside, full, wrong, lost)
}

func TestP10_7Memory(t *testing.T) {
	hold(t, "New", tree.New)
	may, few := 0, []string{"", keyed(0), keyed(7), keyed(30), "none", strings.Repeat("k", 33)}
	for _, x := range trees(t) {
		if tree.Check(x) == api.OK {
			may++
		}
		hold(t, "Check", tree.Check, x)
		for i, key := range few {
			hold(t, "Get", tree.Get, x, key)
			hold(t, "Put", tree.Put, x, key, "")
			hold(t, "Put", tree.Put, x, key, strings.Repeat("w", 63+i%3))
			hold(t, "Delete", tree.Delete, x, key)
			hold(t, "Scan", tree.Scan, x, key, "")
			hold(t, "Scan", tree.Scan, x, "", key)
		}
		for _, root := range []int{0, 1, 2, 5, x.Root, x.Next - 1, x.Next, 900, 901, -1, math.MaxInt} {
			hold(t, "At", tree.At, x, root)
		}
	}
	if may < 10 {
		t.Errorf("of the trees only %d may be", may)
	}
}
