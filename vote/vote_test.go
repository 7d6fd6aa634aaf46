package vote_test

import (
	"math"
	"sync"
	"testing"

	"transept/api"
	"transept/vote"
)

const (
	mostTerm  = 1 << 40
	mostIndex = 1 << 40
	mostNode  = 8
)

// wrongTerms are numbers that are no term: right beside the terms, far away, and at the ends of int.
func wrongTerms() []int {
	return []int{-1, -2, -3, -mostTerm, math.MinInt32, math.MinInt, math.MinInt + 1, mostTerm + 1, mostTerm + 2, 1 << 41, math.MaxInt - 1, math.MaxInt}
}

// wrongNodes are numbers that no replica has.
func wrongNodes() []int {
	return []int{-1, -2, -8, -9, math.MinInt32, math.MinInt, math.MinInt + 1, 9, 10, 16, 256, 1<<32 + 1, math.MaxInt - 1, math.MaxInt}
}

// rightTerms are terms: the least, some in between, and the greatest.
func rightTerms() []int {
	return []int{0, 1, 2, 3, 1000, 1 << 31, 1 << 32, mostTerm - 1, mostTerm}
}

// none is a state of that term without a vote.
func none(term int) vote.State {
	return vote.State{Term: term}
}

// voted is a state of that term with a vote for that replica.
func voted(term, node int) vote.State {
	return vote.State{Term: term, Has: true, For: node}
}

// wrongStates are states that may not be, each by one word of the chapter alone.
func wrongStates() []vote.State {
	var l []vote.State
	for _, term := range wrongTerms() {
		l = append(l, none(term), voted(term, 0), voted(term, 5), voted(term, mostNode))
	}
	for _, node := range wrongNodes() {
		for _, term := range rightTerms() {
			l = append(l, voted(term, node), vote.State{Term: term, For: node})
		}
	}
	for node := 1; node <= mostNode; node++ {
		for _, term := range rightTerms() {
			l = append(l, vote.State{Term: term, For: node})
		}
	}
	return l
}

func wantCheck(t *testing.T, s vote.State, want api.Errno) {
	t.Helper()
	if err := vote.Check(s); err != want {
		t.Errorf("Check(%+v) = %d, want %d", s, err, want)
	}
}

func wantTurn(t *testing.T, s vote.State, term int, want vote.State, wantUp bool) {
	t.Helper()
	if got, up, err := vote.Turn(s, term); got != want || up != wantUp || err != api.OK {
		t.Errorf("Turn(%+v, %d) = %+v, %v, %d, want %+v, %v, 0", s, term, got, up, err, want, wantUp)
	}
}

func wantNoTurn(t *testing.T, s vote.State, term int, want api.Errno) {
	t.Helper()
	if got, up, err := vote.Turn(s, term); got != (vote.State{}) || up || err != want {
		t.Errorf("Turn(%+v, %d) = %+v, %v, %d, want nothing, %d", s, term, got, up, err, want)
	}
}

func wantDecide(t *testing.T, s vote.State, own, ownTerm int, a vote.Ask, want vote.State, wantGiven bool) {
	t.Helper()
	if got, given, err := vote.Decide(s, own, ownTerm, a); got != want || given != wantGiven || err != api.OK {
		t.Errorf("Decide(%+v, %d, %d, %+v) = %+v, %v, %d, want %+v, %v, 0", s, own, ownTerm, a, got, given, err, want, wantGiven)
	}
}

func wantNoDecide(t *testing.T, s vote.State, own, ownTerm int, a vote.Ask, want api.Errno) {
	t.Helper()
	if got, given, err := vote.Decide(s, own, ownTerm, a); got != (vote.State{}) || given || err != want {
		t.Errorf("Decide(%+v, %d, %d, %+v) = %+v, %v, %d, want nothing, %d", s, own, ownTerm, a, got, given, err, want)
	}
}

func TestExample(t *testing.T) {
	s := none(3)
	for _, c := range []struct {
		a     vote.Ask
		want  vote.State
		given bool
	}{
		{vote.Ask{3, 1, 5, 2}, voted(3, 1), true},
		{vote.Ask{3, 2, 9, 3}, voted(3, 1), false},
		{vote.Ask{4, 2, 9, 3}, voted(4, 2), true},
	} {
		wantDecide(t, s, 5, 2, c.a, c.want, c.given)
		s, _, _ = vote.Decide(s, 5, 2, c.a)
	}
}

func TestP16_1Check(t *testing.T) {
	for _, term := range rightTerms() {
		wantCheck(t, none(term), api.OK)
		for node := range mostNode + 1 {
			wantCheck(t, voted(term, node), api.OK)
		}
	}
	for _, s := range wrongStates() {
		wantCheck(t, s, api.ErrState)
	}
	for _, term := range wrongTerms() {
		for _, node := range wrongNodes() {
			wantCheck(t, voted(term, node), api.ErrState)
			wantCheck(t, vote.State{Term: term, For: node}, api.ErrState)
		}
	}
}

func TestP16_1Newer(t *testing.T) {
	for _, c := range []struct {
		last, lastTerm, own, ownTerm int
		want                         bool
	}{
		{4, 1, 5, 2, false},
		{5, 1, 5, 2, false},
		{6, 1, 5, 2, false},
		{4, 2, 5, 2, false},
		{5, 2, 5, 2, true},
		{6, 2, 5, 2, true},
		{4, 3, 5, 2, true},
		{5, 3, 5, 2, true},
		{6, 3, 5, 2, true},
		{0, 0, 0, 0, true},
		{0, 0, 1, 1, false},
		{1, 1, 0, 0, true},
		{0, 0, 1, 0, false},
		{1, 0, 0, 0, true},
		{mostIndex, mostTerm - 1, 0, mostTerm, false},
		{0, mostTerm, mostIndex, mostTerm - 1, true},
		{mostIndex - 1, mostTerm, mostIndex, mostTerm, false},
		{mostIndex, mostTerm, mostIndex, mostTerm, true},
		{mostIndex, mostTerm, mostIndex - 1, mostTerm, true},
		{math.MinInt, math.MaxInt, math.MaxInt, math.MinInt, true},
		{math.MaxInt, math.MinInt, math.MinInt, math.MaxInt, false},
		{math.MaxInt, 2, math.MinInt, 2, true},
		{math.MinInt, 2, math.MaxInt, 2, false},
		{1 << 32, 2, 1, 2, true},
		{1, 1 << 32, 1, 1, true},
	} {
		if got := vote.Newer(c.last, c.lastTerm, c.own, c.ownTerm); got != c.want {
			t.Errorf("Newer(%d, %d, %d, %d) = %v, want %v", c.last, c.lastTerm, c.own, c.ownTerm, got, c.want)
		}
	}
}

// TestP16_1NewerOrders: all ends of logs of few terms and numbers stand in one row, and Newer tells the places in it.
func TestP16_1NewerOrders(t *testing.T) {
	terms := []int{math.MinInt, -1, 0, 1, 2, mostTerm, mostTerm + 1, math.MaxInt}
	for place, term := range terms {
		for at, last := range terms {
			for ownPlace, ownTerm := range terms {
				for ownAt, own := range terms {
					want := place*len(terms)+at >= ownPlace*len(terms)+ownAt
					if got := vote.Newer(last, term, own, ownTerm); got != want {
						t.Errorf("Newer(%d, %d, %d, %d) = %v, want %v", last, term, own, ownTerm, got, want)
					}
				}
			}
		}
	}
}

func TestP16_1Turn(t *testing.T) {
	for place, of := range rightTerms() {
		for at, to := range rightTerms() {
			states := []vote.State{none(of)}
			for node := range mostNode + 1 {
				states = append(states, voted(of, node))
			}
			for _, s := range states {
				if at > place {
					wantTurn(t, s, to, vote.State{Term: to}, true)
				} else {
					wantTurn(t, s, to, s, false)
				}
			}
		}
	}
}

func TestP16_1TurnErrors(t *testing.T) {
	for _, term := range wrongTerms() {
		for _, of := range rightTerms() {
			wantNoTurn(t, none(of), term, api.ErrRange)
			wantNoTurn(t, voted(of, 0), term, api.ErrRange)
			wantNoTurn(t, voted(of, mostNode), term, api.ErrRange)
		}
	}
	for _, s := range wrongStates() {
		for _, term := range rightTerms() {
			wantNoTurn(t, s, term, api.ErrState)
		}
		for _, term := range wrongTerms() {
			wantNoTurn(t, s, term, api.ErrState)
		}
	}
}

func TestP16_2Decide(t *testing.T) {
	older, even, newer := [2]int{9, 1}, [2]int{5, 2}, [2]int{0, 3}
	for _, c := range []struct {
		s        vote.State
		term     int
		from     int
		log      [2]int
		want     vote.State
		wantGive bool
	}{
		// The ask's term is the state's.
		{none(3), 3, 1, older, none(3), false},
		{none(3), 3, 1, even, voted(3, 1), true},
		{none(3), 3, 1, newer, voted(3, 1), true},
		{none(3), 3, 0, even, voted(3, 0), true},
		{none(3), 3, 8, even, voted(3, 8), true},
		{voted(3, 1), 3, 1, older, voted(3, 1), false},
		{voted(3, 1), 3, 1, even, voted(3, 1), true},
		{voted(3, 1), 3, 1, newer, voted(3, 1), true},
		{voted(3, 2), 3, 1, older, voted(3, 2), false},
		{voted(3, 2), 3, 1, even, voted(3, 2), false},
		{voted(3, 2), 3, 1, newer, voted(3, 2), false},
		{voted(3, 0), 3, 0, even, voted(3, 0), true},
		{voted(3, 0), 3, 8, newer, voted(3, 0), false},
		{voted(3, 8), 3, 0, newer, voted(3, 8), false},
		{voted(3, 8), 3, 8, even, voted(3, 8), true},
		// The ask's term is behind the state's.
		{none(3), 2, 1, newer, none(3), false},
		{none(3), 1, 1, newer, none(3), false},
		{voted(3, 1), 2, 1, newer, voted(3, 1), false},
		{voted(3, 2), 2, 1, newer, voted(3, 2), false},
		{none(mostTerm), mostTerm - 1, 1, newer, none(mostTerm), false},
		// The ask's term is ahead of the state's: the term goes up, whoever gets the vote.
		{none(3), 4, 1, older, none(4), false},
		{none(3), 4, 1, even, voted(4, 1), true},
		{none(3), 4, 1, newer, voted(4, 1), true},
		{voted(3, 1), 4, 1, older, none(4), false},
		{voted(3, 1), 4, 1, even, voted(4, 1), true},
		{voted(3, 2), 4, 1, older, none(4), false},
		{voted(3, 2), 4, 1, even, voted(4, 1), true},
		{voted(3, 2), 900, 0, newer, voted(900, 0), true},
		{none(0), 1, 8, even, voted(1, 8), true},
		{none(0), 1, 8, older, none(1), false},
		{voted(0, 2), 1, 8, even, voted(1, 8), true},
		// The greatest term.
		{none(3), mostTerm, 5, even, voted(mostTerm, 5), true},
		{none(3), mostTerm, 5, older, none(mostTerm), false},
		{none(mostTerm), mostTerm, 5, even, voted(mostTerm, 5), true},
		{voted(mostTerm, 4), mostTerm, 5, newer, voted(mostTerm, 4), false},
		{voted(mostTerm, 5), mostTerm, 5, even, voted(mostTerm, 5), true},
	} {
		wantDecide(t, c.s, 5, 2, vote.Ask{c.term, c.from, c.log[0], c.log[1]}, c.want, c.wantGive)
	}
}

// logs are ends of logs, in their order, some of which no log has: nothing is refused for them.
func logs() [][2]int {
	return [][2]int{{math.MaxInt, math.MinInt}, {7, -1}, {0, 0}, {6, 1}, {4, 2}, {5, 2}, {6, 2}, {1, 3}, {mostIndex, mostTerm}, {mostIndex + 1, mostTerm}, {math.MinInt, math.MaxInt}}
}

// TestP16_2DecideOfAll: every state and ask of few terms, of all replicas and of ends of logs.
func TestP16_2DecideOfAll(t *testing.T) {
	given, kept := 0, 0
	for of := range 5 {
		for whom := -1; whom <= mostNode; whom++ {
			s := none(of)
			if whom >= 0 {
				s = voted(of, whom)
			}
			for term := 1; term <= 6; term++ {
				for from := range mostNode + 1 {
					for at, log := range logs() {
						for ownAt, own := range logs() {
							free := term > of || term == of && (whom < 0 || whom == from)
							want, wantGiven := s, false
							if term > of {
								want = none(term)
							}
							if free && at >= ownAt {
								want, wantGiven = voted(term, from), true
								given++
							} else {
								kept++
							}
							wantDecide(t, s, own[0], own[1], vote.Ask{term, from, log[0], log[1]}, want, wantGiven)
						}
					}
				}
			}
		}
	}
	if given < 50000 || kept < 50000 {
		t.Errorf("only %d votes were given, and %d not", given, kept)
	}
}

func TestP16_2DecideErrors(t *testing.T) {
	states := []vote.State{none(0), none(3), voted(3, 0), voted(3, 1), voted(mostTerm, mostNode)}
	for _, s := range states {
		for _, term := range append(wrongTerms(), 0) {
			for _, from := range []int{0, 1, mostNode} {
				wantNoDecide(t, s, 5, 2, vote.Ask{term, from, 9, 3}, api.ErrRange)
				wantNoDecide(t, s, 5, 2, vote.Ask{term, from, 4, 2}, api.ErrRange)
			}
			for _, from := range wrongNodes() {
				wantNoDecide(t, s, 5, 2, vote.Ask{term, from, 9, 3}, api.ErrRange)
			}
		}
		for _, term := range rightTerms() {
			for _, from := range wrongNodes() {
				wantNoDecide(t, s, 5, 2, vote.Ask{term, from, 9, 3}, api.ErrRange)
				wantNoDecide(t, s, 5, 2, vote.Ask{term, from, 4, 2}, api.ErrRange)
			}
		}
	}
}

// TestP16_2DecideOrder: a state that may not be goes ahead of an ask that may not be, and is refused beside any other.
func TestP16_2DecideOrder(t *testing.T) {
	for _, s := range wrongStates() {
		for _, from := range append(wrongNodes(), 0, 1, 5, mostNode) {
			for _, term := range append(wrongTerms(), 0, 1, 3, mostTerm) {
				wantNoDecide(t, s, 5, 2, vote.Ask{term, from, 9, 3}, api.ErrState)
			}
		}
	}
}

// TestSameAgain: the same arguments, the same answers (P3), from goroutines that ask at once.
func TestSameAgain(t *testing.T) {
	var all sync.WaitGroup
	for range 8 {
		all.Go(func() {
			for range 500 {
				wantCheck(t, voted(3, 1), api.OK)
				wantTurn(t, voted(3, 1), 4, none(4), true)
				wantDecide(t, voted(3, 1), 5, 2, vote.Ask{4, 2, 5, 2}, voted(4, 2), true)
				wantNoDecide(t, voted(3, 1), 5, 2, vote.Ask{4, 9, 5, 2}, api.ErrRange)
			}
		})
	}
	all.Wait()
}
