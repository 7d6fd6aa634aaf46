package memory_test

import (
	"math"
	"testing"

	"transept/api"
	"transept/vote"
)

func TestP16_5Memory(t *testing.T) {
	given, refused := 0, 0
	numbers := []int{0, 1, 3, 4, 8, 9, api.MaxTerm, api.MaxTerm + 1, -1, math.MinInt, math.MaxInt}
	for _, s := range []vote.State{{}, {Term: 3}, {Term: 3, Has: true, For: 1}, {Term: 0, Has: true}, {Term: api.MaxTerm, Has: true, For: 8}, {Term: 3, For: 1}, {Term: -1}, {Term: 3, Has: true, For: 9}} {
		hold(t, "Check", vote.Check, s)
		for _, n := range numbers {
			hold(t, "Turn", vote.Turn, s, n)
			for _, from := range numbers {
				for _, own := range []int{4, 5, 6} {
					a := vote.Ask{Term: n, From: from, Last: 5, LastTerm: 2}
					hold(t, "Decide", vote.Decide, s, own, 2, a)
					if _, yes, err := vote.Decide(s, own, 2, a); yes {
						given++
					} else if err != api.OK {
						refused++
					}
				}
				hold(t, "Newer", vote.Newer, n, 2, from, 2)
			}
		}
	}
	if given < 50 || refused < 500 {
		t.Errorf("only %d votes were given and %d asks refused", given, refused)
	}
}
