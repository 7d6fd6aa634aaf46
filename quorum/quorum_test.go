package quorum_test

import (
	"math"
	"slices"
	"sync"
	"testing"

	"transept/api"
	"transept/quorum"
)

const end = api.MaxIndex

// badIndexes are numbers that are none from 0 to MaxIndex: right beside them, far away, and at the ends of int.
func badIndexes() []int {
	return []int{-1, -2, -end, end + 1, end + 2, 2 * end, math.MaxInt, math.MaxInt - 1, math.MinInt, math.MinInt + 1, math.MinInt32, 1 << 41}
}

// wrongCounts are lengths that no list of replicas has.
func wrongCounts() []int {
	return []int{0, 10, 11, 16, 255, 256, 257, 1000, 65537}
}

func wantAgreed(t *testing.T, match []int, want int) {
	t.Helper()
	if got, err := quorum.Agreed(match); got != want || err != api.OK {
		t.Errorf("Agreed(%v) = %d, %d, want %d, 0", match, got, err, want)
	}
}

func wantNoAgreed(t *testing.T, match []int, want api.Errno) {
	t.Helper()
	if got, err := quorum.Agreed(match); got != 0 || err != want {
		t.Errorf("Agreed(%v) = %d, %d, want 0, %d", match, got, err, want)
	}
}

func wantCommit(t *testing.T, match []int, commit, first, want int) {
	t.Helper()
	if got, err := quorum.Commit(match, commit, first); got != want || err != api.OK {
		t.Errorf("Commit(%v, %d, %d) = %d, %d, want %d, 0", match, commit, first, got, err, want)
	}
}

func wantNoCommit(t *testing.T, match []int, commit, first int, want api.Errno) {
	t.Helper()
	if got, err := quorum.Commit(match, commit, first); got != 0 || err != want {
		t.Errorf("Commit(%v, %d, %d) = %d, %d, want 0, %d", match, commit, first, got, err, want)
	}
}

// lists calls each with every list of that many numbers from 0 to most.
func lists(n, most int, each func(l []int)) {
	l := make([]int, n)
	for {
		each(l)
		i := 0
		for i < n && l[i] == most {
			l[i] = 0
			i++
		}
		if i == n {
			return
		}
		l[i]++
	}
}

// majorities are by hand, by the number of replicas.
func majorities() []int {
	return []int{0, 1, 2, 2, 3, 3, 4, 4, 5, 5}
}

// reached tells how many of match are at least at.
func reached(match []int, at int) int {
	n := 0
	for _, m := range match {
		if m >= at {
			n++
		}
	}
	return n
}

// agreed says Agreed as the chapter does, of numbers up to most.
func agreed(match []int, most int) int {
	for at := most; at > 0; at-- {
		if reached(match, at) >= majorities()[len(match)] {
			return at
		}
	}
	return 0
}

func TestExample(t *testing.T) {
	wantAgreed(t, []int{5, 3, 9}, 5)
	if n, err := quorum.Majority(4); n != 3 || err != api.OK {
		t.Errorf("Majority(4) = %d, %d, want 3, 0", n, err)
	}
}

func TestP14_1Majority(t *testing.T) {
	for n := 1; n <= 9; n++ {
		got, err := quorum.Majority(n)
		if want := majorities()[n]; got != want || err != api.OK {
			t.Errorf("Majority(%d) = %d, %d, want %d, 0", n, got, err, want)
		}
		if 2*got <= n || 2*(got-1) > n {
			t.Errorf("Majority(%d) = %d is not the least number that is more than half", n, got)
		}
	}
}

func TestP14_1MajorityErrors(t *testing.T) {
	for _, n := range []int{0, 10, 11, 12, 16, 18, 100, 257, 265, -1, -2, -3, -9, -10, math.MaxInt, math.MaxInt - 1, math.MinInt, math.MinInt + 1, math.MaxInt32, math.MinInt32, 1<<32 + 5} {
		if got, err := quorum.Majority(n); got != 0 || err != api.ErrRange {
			t.Errorf("Majority(%d) = %d, %d, want 0, %d", n, got, err, api.ErrRange)
		}
	}
}

func TestP14_1Agreed(t *testing.T) {
	for _, c := range []struct {
		match []int
		want  int
	}{
		{[]int{7}, 7},
		{[]int{0}, 0},
		{[]int{end}, end},
		{[]int{4, 6}, 4},
		{[]int{6, 4}, 4},
		{[]int{end, 0}, 0},
		{[]int{0, end}, 0},
		{[]int{end, end}, end},
		{[]int{1, 2, 3}, 2},
		{[]int{3, 2, 1}, 2},
		{[]int{3, 1, 2}, 2},
		{[]int{0, end, 0}, 0},
		{[]int{end, 0, end}, end},
		{[]int{5, 3, 9, 1}, 3},
		{[]int{1, 2, 3, 4}, 2},
		{[]int{4, 3, 2, 1}, 2},
		{[]int{8, 8, 0, 0}, 0},
		{[]int{8, 0, 8, 8}, 8},
		{[]int{1, 2, 3, 4, 5}, 3},
		{[]int{10, 9, 8, 100, 99}, 10},
		{[]int{1, 2, 3, 4, 5, 6}, 3},
		{[]int{6, 5, 4, 3, 2, 1}, 3},
		{[]int{1, 2, 3, 4, 5, 6, 7}, 4},
		{[]int{7, 6, 5, 4, 3, 2, 1}, 4},
		{[]int{1, 2, 3, 4, 5, 6, 7, 8}, 4},
		{[]int{8, 7, 6, 5, 4, 3, 2, 1}, 4},
		{[]int{1, 2, 3, 4, 5, 6, 7, 8, 9}, 5},
		{[]int{9, 8, 7, 6, 5, 4, 3, 2, 1}, 5},
		{[]int{9, 1, 9, 1, 9, 1, 9, 1, 2}, 2},
		{[]int{0, 0, 0, 0, end, end, end, end, end}, end},
		{[]int{0, 0, 0, 0, 0, end, end, end, end}, 0},
		{[]int{0, 0, 0, 0, end - 1, end, end, end, end}, end - 1},
	} {
		wantAgreed(t, c.match, c.want)
	}
	for n := 1; n <= 9; n++ {
		for _, alike := range []int{0, 1, 2, 41, 1 << 31, 1 << 32, end - 1, end} {
			wantAgreed(t, slices.Repeat([]int{alike}, n), alike)
		}
	}
}

// TestP14_1AgreedOfAll: every list of few numbers, against the chapter's own words.
func TestP14_1AgreedOfAll(t *testing.T) {
	for n, most := range []int{0, 30, 12, 7, 5, 4, 3, 2, 2, 2} {
		if n > 0 {
			lists(n, most, func(match []int) { wantAgreed(t, match, agreed(match, most)) })
		}
	}
}

func TestP14_1AgreedErrors(t *testing.T) {
	wantNoAgreed(t, nil, api.ErrCount)
	for _, n := range wrongCounts() {
		wantNoAgreed(t, make([]int, n), api.ErrCount)
		for _, bad := range badIndexes() {
			wantNoAgreed(t, slices.Repeat([]int{bad}, n), api.ErrCount)
		}
	}
	for n := 1; n <= 9; n++ {
		for at := range n {
			for _, bad := range badIndexes() {
				for _, other := range []int{0, 3, end} {
					match := slices.Repeat([]int{other}, n)
					match[at] = bad
					wantNoAgreed(t, match, api.ErrRange)
				}
			}
		}
	}
}

func TestP14_1Commit(t *testing.T) {
	match := []int{5, 3, 9}
	for _, c := range []struct{ commit, first, want int }{
		{2, 6, 2}, // agreed upon, but of an earlier term
		{2, 5, 5},
		{2, 4, 5},
		{2, 0, 5},
		{0, 0, 5},
		{0, 5, 5},
		{0, 6, 0},
		{4, 5, 5},
		{4, 6, 4},
		{5, 5, 5},
		{5, 4, 5},
		{5, 6, 5},
		{6, 5, 6},
		{6, 4, 6},
		{6, 6, 6},
		{9, 0, 9},
		{end, 0, end},
		{end, end, end},
		{0, end, 0},
		{1, end, 1},
	} {
		wantCommit(t, match, c.commit, c.first, c.want)
	}
	wantCommit(t, []int{end}, 0, end, end)
	wantCommit(t, []int{end}, 0, 0, end)
	wantCommit(t, []int{end - 1}, 7, end, 7)
	wantCommit(t, []int{0}, 0, 0, 0)
	wantCommit(t, []int{0, 0, end}, 3, 0, 3)
}

// TestP14_1CommitOfAll: every list, commit and first of few numbers, against the chapter's own words.
func TestP14_1CommitOfAll(t *testing.T) {
	for n, most := range []int{0, 9, 6, 4, 3, 2, 2, 1, 1, 1} {
		if n == 0 {
			continue
		}
		lists(n, most, func(match []int) {
			for commit := range most + 2 {
				for first := range most + 2 {
					want, a := commit, agreed(match, most)
					if a >= first && a > commit {
						want = a
					}
					wantCommit(t, match, commit, first, want)
				}
			}
		})
	}
}

func TestP14_1CommitErrors(t *testing.T) {
	good := []int{5, 3, 9}
	for _, bad := range badIndexes() {
		wantNoCommit(t, good, bad, 1, api.ErrRange)
		wantNoCommit(t, good, 1, bad, api.ErrRange)
		wantNoCommit(t, good, bad, bad, api.ErrRange)
		for at := range good {
			match := slices.Clone(good)
			match[at] = bad
			wantNoCommit(t, match, 1, 1, api.ErrRange)
			wantNoCommit(t, match, bad, 1, api.ErrRange)
			wantNoCommit(t, match, 1, bad, api.ErrRange)
		}
		for _, n := range wrongCounts() {
			match := slices.Repeat([]int{bad}, n)
			wantNoCommit(t, match, 1, 1, api.ErrCount)
			wantNoCommit(t, match, bad, 1, api.ErrCount)
			wantNoCommit(t, match, 1, bad, api.ErrCount)
			wantNoCommit(t, make([]int, n), bad, bad, api.ErrCount)
			wantNoCommit(t, make([]int, n), 0, 0, api.ErrCount)
		}
	}
	wantNoCommit(t, nil, 0, 0, api.ErrCount)
	wantNoCommit(t, nil, -1, 0, api.ErrCount)
	wantNoCommit(t, nil, 0, end+1, api.ErrCount)
}

// sets calls each with every set of that many votes, and how many of them are true.
func sets(n int, each func(votes []bool, yes int)) {
	for bits := range 1 << n {
		votes := make([]bool, n)
		yes := 0
		for i := range votes {
			if votes[i] = bits>>i&1 == 1; votes[i] {
				yes++
			}
		}
		each(votes, yes)
	}
}

func TestP14_1Wins(t *testing.T) {
	for n := 1; n <= 9; n++ {
		sets(n, func(votes []bool, yes int) {
			want := yes >= majorities()[n]
			if got, err := quorum.Wins(votes); got != want || err != api.OK {
				t.Errorf("Wins(%v) = %v, %d, want %v, 0", votes, got, err, want)
			}
		})
	}
}

func TestP14_1WinsErrors(t *testing.T) {
	for _, n := range wrongCounts() {
		for _, yes := range []bool{false, true} {
			if got, err := quorum.Wins(slices.Repeat([]bool{yes}, n)); got || err != api.ErrCount {
				t.Errorf("Wins of %d votes = %v, %d, want false, %d", n, got, err, api.ErrCount)
			}
		}
	}
	if got, err := quorum.Wins(nil); got || err != api.ErrCount {
		t.Errorf("Wins(nil) = %v, %d, want false, %d", got, err, api.ErrCount)
	}
}

// TestP14_2TwoMajoritiesShareOne: two sets of votes that both win have a vote in common, and neither could be smaller.
func TestP14_2TwoMajoritiesShareOne(t *testing.T) {
	for n := 1; n <= 9; n++ {
		var winners []int
		sets(n, func(votes []bool, yes int) {
			set := 0
			for i, v := range votes {
				if v {
					set |= 1 << i
				}
			}
			if wins, _ := quorum.Wins(votes); wins {
				winners = append(winners, set)
			}
		})
		if len(winners) == 0 {
			t.Errorf("of %d votes no set wins", n)
		}
		for _, a := range winners {
			for _, b := range winners {
				if a&b == 0 {
					t.Errorf("of %d votes the sets %b and %b both win, and share none", n, a, b)
				}
			}
		}
		if need, err := quorum.Majority(n); 2*need <= n || err != api.OK {
			t.Errorf("Majority(%d) = %d, %d: two of them need not share one", n, need, err)
		}
	}
}

// dice answers numbers below n, the same ones for the same seed.
func dice(seed uint32) func(n int) int {
	return func(n int) int {
		seed = seed*1664525 + 1013904223
		return int(uint64(seed) * uint64(n) >> 32)
	}
}

// upwards holds Agreed and Commit to P14.3 where one of match goes up by so much.
func upwards(t *testing.T, match []int, at, by int) {
	t.Helper()
	before, err := quorum.Agreed(match)
	higher := slices.Clone(match)
	higher[at] += by
	behind, errBehind := quorum.Agreed(higher)
	if err != api.OK || errBehind != api.OK || behind < before {
		t.Errorf("Agreed(%v) = %d, %d, but Agreed(%v) = %d, %d", match, before, err, higher, behind, errBehind)
	}
}

func TestP14_3AgreedGoesUp(t *testing.T) {
	for n, most := range []int{0, 9, 6, 4, 3, 2, 2, 1, 1, 1} {
		if n == 0 {
			continue
		}
		lists(n, most, func(match []int) {
			for at := range n {
				for by := range most + 1 {
					upwards(t, match, at, by)
				}
			}
		})
	}
	roll := dice(14)
	for range 20000 {
		match := make([]int, 1+roll(9))
		for i := range match {
			match[i] = roll(1<<20) << roll(20)
		}
		at := roll(len(match))
		upwards(t, match, at, roll(end-match[at]+1))
	}
	// Each number of a majority going up by one takes what is agreed upon with it.
	for n := 1; n <= 9; n++ {
		match := make([]int, n)
		for at := range majorities()[n] {
			wantAgreed(t, match, 0)
			match[at] = 1
		}
		wantAgreed(t, match, 1)
	}
}

func TestP14_3CommitNeverGoesDown(t *testing.T) {
	roll := dice(143)
	moved, kept := 0, 0
	for range 300 {
		match, commit := make([]int, 1+roll(9)), 0
		for range 100 {
			at := roll(len(match))
			match[at] = roll(50) // a replica may tell less than before
			now, err := quorum.Commit(match, commit, roll(50))
			if err != api.OK || now < commit {
				t.Fatalf("Commit(%v, %d, ..) = %d, %d", match, commit, now, err)
			}
			if now > commit {
				moved++
			} else {
				kept++
			}
			commit = now
		}
	}
	if moved < 500 || kept < 500 {
		t.Errorf("what is committed went on %d times and stayed %d times", moved, kept)
	}
}

// TestSameAgain: the same arguments, the same answers (P3), from goroutines that hold the same lists.
func TestSameAgain(t *testing.T) {
	match, votes := []int{9, 1, 7, 3, 5}, []bool{true, false, true, true, false}
	var all sync.WaitGroup
	for range 8 {
		all.Go(func() {
			for range 200 {
				a, errA := quorum.Agreed(match)
				c, errC := quorum.Commit(match, 2, 5)
				w, errW := quorum.Wins(votes)
				if a != 5 || c != 5 || !w || errA != api.OK || errC != api.OK || errW != api.OK {
					t.Error("another answer:", a, errA, c, errC, w, errW)
				}
			}
		})
	}
	all.Wait()
}
