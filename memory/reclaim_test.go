package memory_test

import (
	"math"
	"testing"

	"transept/api"
	"transept/reclaim"
)

func TestP11_6Memory(t *testing.T) {
	may := 0
	for _, x := range trees(t) {
		many := make([]int, api.MaxRoots+1)
		for _, roots := range [][]int{
			nil, {}, {0}, {x.Root}, {1}, {5, 1, x.Root, 9}, {20, 20}, {x.Next - 1}, {x.Next}, {900}, {-1}, {math.MaxInt, 1},
			many, many[1:], many[:1],
		} {
			if _, err := reclaim.Live(x, roots); err == api.OK {
				may++
			}
			hold(t, "Live", reclaim.Live, x, roots)
			hold(t, "Sweep", reclaim.Sweep, x, roots)
		}
	}
	if may < 100 {
		t.Errorf("of the calls only %d may be", may)
	}
}
