package memory_test

import (
	"math"
	"testing"

	"transept/api"
	"transept/quorum"
)

func TestP14_4Memory(t *testing.T) {
	for n := range 12 {
		falling, bad, votes := make([]int, n), make([]int, n), make([]bool, n)
		for i := range n {
			falling[i], bad[i], votes[i] = 100-i, 100-i, i%3 > 0
		}
		if n > 0 {
			bad[n-1] = -1
		}
		hold(t, "Majority", quorum.Majority, n)
		hold(t, "Wins", quorum.Wins, votes)
		for _, match := range [][]int{falling, bad} {
			hold(t, "Agreed", quorum.Agreed, match)
			for _, number := range []int{0, 95, 100, -1, api.MaxIndex, api.MaxIndex + 1, math.MaxInt, math.MinInt} {
				hold(t, "Commit", quorum.Commit, match, number, 0)
				hold(t, "Commit", quorum.Commit, match, 0, number)
			}
		}
	}
}
