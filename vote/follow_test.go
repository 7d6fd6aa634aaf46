package vote_test

import (
	"math"
	"testing"

	"transept/api"
	"transept/vote"
)

// ballot is a replica that is asked, one ask behind the other, and for whom it voted in each term.
type ballot struct {
	s     vote.State
	votes map[int]int
	given int
	kept  int
}

// follow begins at a state, whose vote counts too.
func follow(s vote.State) *ballot {
	b := &ballot{s: s, votes: map[int]int{}}
	if s.Has {
		b.votes[s.Term] = s.For
	}
	return b
}

// step takes the next state, which may not be of a lower term, nor lose a vote within one.
func (b *ballot) step(t *testing.T, next vote.State, err api.Errno) {
	t.Helper()
	if err != api.OK {
		return // nothing is told, and the replica keeps its state
	}
	if vote.Check(next) != api.OK {
		t.Errorf("behind %+v stands %+v, which may not be", b.s, next)
	}
	if next.Term < b.s.Term {
		t.Errorf("the term went down: behind %+v stands %+v", b.s, next)
	}
	if next.Term == b.s.Term && b.s.Has && next != b.s {
		t.Errorf("the vote went: behind %+v stands %+v", b.s, next)
	}
	b.s = next
}

// ask lets the replica decide, and wants that no two get its vote in one term.
func (b *ballot) ask(t *testing.T, own, ownTerm int, a vote.Ask) {
	t.Helper()
	next, given, err := vote.Decide(b.s, own, ownTerm, a)
	b.step(t, next, err)
	if !given {
		b.kept++
		return
	}
	b.given++
	if whom, has := b.votes[a.Term]; has && whom != a.From {
		t.Errorf("in term %d both %d and %d got a vote", a.Term, whom, a.From)
	}
	if b.s != voted(a.Term, a.From) {
		t.Errorf("a vote for %+v leaves %+v", a, b.s)
	}
	b.votes[a.Term] = a.From
}

// turn tells the replica of a term.
func (b *ballot) turn(t *testing.T, term int) {
	t.Helper()
	next, up, err := vote.Turn(b.s, term)
	if up != (err == api.OK && next.Term > b.s.Term) {
		t.Errorf("Turn(%+v, %d) = %+v, %v, %d", b.s, term, next, up, err)
	}
	b.step(t, next, err)
}

// smallAsks are all asks of few terms and replicas, with an older, an even and a newer log than (5, 2).
func smallAsks() []vote.Ask {
	var l []vote.Ask
	for term := range 4 {
		for from := range 3 {
			for last := 4; last <= 6; last++ {
				l = append(l, vote.Ask{term, from, last, 2})
			}
		}
	}
	return l
}

// TestP16_3OneVoteOfAll: every three small asks, one behind the other, from every small state.
func TestP16_3OneVoteOfAll(t *testing.T) {
	asks, given, kept := smallAsks(), 0, 0
	for _, s := range []vote.State{none(0), none(1), none(2), voted(0, 1), voted(1, 0), voted(1, 2), voted(2, 1)} {
		for _, first := range asks {
			for _, second := range asks {
				for _, third := range asks {
					b := follow(s)
					b.ask(t, 5, 2, first)
					b.ask(t, 5, 2, second)
					b.ask(t, 5, 2, third)
					given, kept = given+b.given, kept+b.kept
				}
			}
		}
	}
	if given < 50000 || kept < 50000 {
		t.Errorf("only %d votes were given, and %d not", given, kept)
	}
}

// dice answers numbers below n, the same ones for the same seed.
func dice(seed uint32) func(n int) int {
	return func(n int) int {
		seed = seed*1664525 + 1013904223
		return int(uint64(seed) * uint64(n) >> 32)
	}
}

// near answers a term near the state's, or now and then one that is far away or none.
func near(roll func(n int) int, term int) int {
	switch roll(40) {
	case 0:
		return wrongTerms()[roll(len(wrongTerms()))]
	case 1:
		return 0
	case 2:
		return min(term+1<<roll(41), mostTerm)
	}
	return max(0, min(term+roll(5)-2, mostTerm))
}

// TestP16_3OneVote: long rows of asks and of words of other terms, by a log that grows and is cut off.
func TestP16_3OneVote(t *testing.T) {
	roll := dice(163)
	given, again, kept := 0, 0, 0
	for _, begin := range []int{0, 1, 500, mostTerm - 100, mostTerm - 3, mostTerm} {
		for range 100 {
			b := follow(none(begin))
			for range 200 {
				if roll(8) == 0 {
					b.turn(t, near(roll, b.s.Term))
					continue
				}
				from := roll(mostNode + 1)
				if roll(20) == 0 {
					from = wrongNodes()[roll(len(wrongNodes()))]
				}
				terms := len(b.votes)
				before := b.given
				b.ask(t, roll(6), roll(3), vote.Ask{near(roll, b.s.Term), from, roll(6), roll(4)})
				if b.given > before && len(b.votes) == terms {
					again++
				}
			}
			given, kept = given+b.given, kept+b.kept
		}
	}
	if given < 10000 || again < 1000 || kept < 10000 {
		t.Errorf("only %d votes were given, %d of them again, and %d not", given, again, kept)
	}
}

// TestP16_3Elections: replicas that vote in one term give two of them a majority never.
func TestP16_3Elections(t *testing.T) {
	roll := dice(1633)
	won := 0
	for n := 1; n <= mostNode+1; n++ {
		for term := 1; term <= 200; term++ {
			votes := make([]int, n)
			for range n {
				s := none(term - 1)
				for range 2 * n {
					a := vote.Ask{Term: term, From: roll(n), Last: roll(3), LastTerm: term - 1}
					next, given, err := vote.Decide(s, 1, term-1, a)
					if err != api.OK {
						t.Fatalf("Decide(%+v, 1, %d, %+v): %d", s, term-1, a, err)
					}
					if given && !s.Has {
						votes[a.From]++
					}
					s = next
				}
			}
			winners := 0
			for _, yes := range votes {
				if 2*yes > n {
					winners++
				}
			}
			if winners > 1 {
				t.Errorf("in one term %d replicas win: %v", winners, votes)
			}
			won += winners
		}
	}
	if won < 200 {
		t.Errorf("only %d were won", won)
	}
}

// TestP16_4TermNeverGoesDown: from every state, behind whatever is asked or told.
func TestP16_4TermNeverGoesDown(t *testing.T) {
	told := append(append(rightTerms(), wrongTerms()...), math.MinInt32, math.MaxInt32)
	up, stayed := 0, 0
	for _, of := range rightTerms() {
		for _, s := range []vote.State{none(of), voted(of, 0), voted(of, 3), voted(of, mostNode)} {
			for _, term := range told {
				answers := make([]vote.State, 0, 8)
				if next, _, err := vote.Turn(s, term); err == api.OK {
					answers = append(answers, next)
				}
				for _, from := range []int{0, 3, mostNode, -1, mostNode + 1} {
					for _, log := range logs() {
						if next, _, err := vote.Decide(s, 5, 2, vote.Ask{term, from, log[0], log[1]}); err == api.OK {
							answers = append(answers, next)
						}
					}
				}
				for _, next := range answers {
					if next.Term != max(of, term) {
						t.Errorf("%+v, told of term %d, is %+v", s, term, next)
					}
					if next.Term > of {
						up++
					} else {
						stayed++
					}
				}
			}
		}
	}
	if up < 3000 || stayed < 3000 {
		t.Errorf("the term went up %d times and stayed %d times", up, stayed)
	}
}
