package raft_test

import (
	"fmt"
	"slices"
	"testing"

	"transept/api"
	"transept/raft"
	"transept/raftlog"
	"transept/vote"
)

// dice answers numbers below n, the same ones for the same seed.
func dice(seed uint32) func(n int) int {
	return func(n int) int {
		seed = seed*1664525 + 1013904223
		return int(uint64(seed) * uint64(n) >> 32)
	}
}

// anyLog answers a log of terms up to that one; now and then one whose numbers are near the greatest.
func anyLog(roll func(n int) int, term int) raftlog.Log {
	l := raftlog.Log{Base: max(roll(8)-3, 0)}
	if roll(12) == 0 {
		l.Base = mostIndex - roll(8)
	}
	at := roll(term + 1)
	if l.Base > 0 {
		l.BaseTerm = at
	}
	for i := range min(roll(13), mostIndex-l.Base) {
		at = min(max(at, 1)+roll(4)/3, max(term, 1))
		if at > term {
			break
		}
		l.Entries = append(l.Entries, api.Entry{Term: at, Data: fmt.Appendf(nil, "%d of %d", i, at)})
	}
	return l
}

// anyState answers a state that may be, whether a replica could come to it or not.
func anyState(roll func(n int) int) raft.State {
	s := raft.State{N: 1 + roll(5), Role: roll(3), Elapsed: roll(5), Timeout: roll(7)}
	if roll(8) == 0 {
		s.Elapsed, s.Timeout = mostTicks-roll(2), mostTicks-roll(2)
	}
	if s.Role == leader {
		s.Elapsed = roll(3)
	}
	s.ID = roll(s.N)
	term := roll(6)
	if roll(15) == 0 {
		term = mostTerm - roll(2)
	}
	s.Log = anyLog(roll, min(term, 5))
	s.Vote = vote.State{Term: term, Has: roll(3) > 0}
	if s.Vote.Has {
		s.Vote.For = roll(s.N)
	}
	if s.Role != follower {
		s.Vote.Has, s.Vote.For = true, s.ID
	}
	if s.HasLeader = roll(2) == 0; s.HasLeader {
		s.Leader = roll(s.N)
	}
	s.Commit = s.Log.Base + roll(len(s.Log.Entries)+1)
	s.Snap = []byte("image")[:roll(6)]
	for range roll(3) {
		s.Draws = append(s.Draws, roll(50)-25)
	}
	for range s.N {
		switch s.Role {
		case candidate:
			s.Votes = append(s.Votes, roll(3) == 0)
		case leader:
			s.Next = append(s.Next, near(roll, s.Log, 1, mostIndex+1))
			s.Match = append(s.Match, near(roll, s.Log, 0, mostIndex))
		}
	}
	return s
}

// near answers a number from low to high, mostly about the numbers of the log's entries.
func near(roll func(n int) int, l raftlog.Log, low, high int) int {
	switch roll(15) {
	case 0:
		return low
	case 1:
		return high
	}
	return min(max(l.Base+roll(len(l.Entries)+5)-2, low), high)
}

// anyEvent answers an event for s, most of which may be.
func anyEvent(roll func(n int) int, s raft.State) raft.Event {
	e := raft.Event{Kind: 1 + roll(4), Data: anyData(roll), Snap: anyData(roll), Index: near(roll, s.Log, -1, mostIndex+1)}
	if roll(2) == 0 {
		e.Kind = message
	}
	if roll(40) == 0 {
		e.Kind = roll(8) - 1
	}
	m := raft.Msg{Kind: 1 + roll(5), From: roll(s.N), To: s.ID, Term: max(s.Vote.Term+roll(4)/3-roll(4)/3, 1), OK: roll(2) == 0}
	if s.N > 1 && m.From == s.ID {
		m.From = (m.From + 1) % s.N
	}
	m.Last, m.LastTerm = near(roll, s.Log, 0, mostIndex), lastTerm(s.Log)+roll(3)-1
	m.Prev, m.PrevTerm = near(roll, s.Log, -1, mostIndex+1), roll(6)
	if own := termAt(s.Log, m.Prev); own >= 0 && roll(4) > 0 {
		m.PrevTerm = own
	}
	m.Entries = anyEntries(roll, s, m.Prev)
	m.Commit, m.Match = near(roll, s.Log, -1, mostIndex+1), near(roll, s.Log, 0, mostIndex)
	if roll(8) == 0 {
		m.Match = -1
	}
	m.Snap = anyData(roll)
	if roll(30) == 0 {
		m.From, m.To, m.Kind, m.Term = roll(7)-1, roll(7)-1, roll(8)-1, roll(4)-1
	}
	e.Msg = m
	return e
}

// anyData answers octets, now and then as many as may be, or one more.
func anyData(roll func(n int) int) []byte {
	switch roll(25) {
	case 0:
		return make([]byte, mostOctets)
	case 1:
		return make([]byte, mostOctets+1)
	}
	return []byte("something")[:roll(10)]
}

// anyEntries answers entries behind prev, mostly such as s has there, and then others.
func anyEntries(roll func(n int) int, s raft.State, prev int) []api.Entry {
	var l []api.Entry
	term, alike := 1, roll(3) > 0
	for i := range roll(7) {
		own := termAt(s.Log, prev+1+i)
		if alike = alike && own > 0 && roll(5) > 0; alike {
			term = own
		} else {
			term = max(term, own) + roll(5)/4 - roll(9)/8
		}
		e := api.Entry{Term: term, Data: []byte("new")}
		if roll(9) == 0 {
			e.Data = anyData(roll)
		}
		l = append(l, e)
	}
	return l
}

// wantAsModel wants what the other hand answers, and that what follows keeps P17.3 and P17.4.
func wantAsModel(t *testing.T, s raft.State, e raft.Event) (raft.State, []raft.Msg, api.Errno) {
	t.Helper()
	next, told, err := model(s, e)
	wantStep(t, s, e, next, told, err)
	got, _, gotErr := raft.Step(s, e)
	if gotErr == api.OK {
		wantKept(t, s, got)
	}
	return next, told, err
}

// wantKept holds a step to P17.3, and to what P17.4 asks of one step.
func wantKept(t *testing.T, s, next raft.State) {
	t.Helper()
	if !mayBe(next) || raft.Check(next) != api.OK {
		t.Errorf("behind %s stands %s, which may not be", short(s), short(next))
		return
	}
	if next.Vote.Term < s.Vote.Term || next.Commit < s.Commit || next.ID != s.ID || next.N != s.N {
		t.Errorf("behind %s stands %s", short(s), short(next))
	}
	if next.Log.Base > next.Commit || next.Log.Base < s.Log.Base {
		t.Errorf("behind %s a snapshot is up to %d", short(s), next.Log.Base)
	}
	for n := max(s.Log.Base, next.Log.Base) + 1; n <= s.Commit; n++ {
		if !sameEntries(s.Log.Entries[n-1-s.Log.Base:n-s.Log.Base], next.Log.Entries[n-1-next.Log.Base:n-next.Log.Base]) {
			t.Errorf("behind %s number %d is another one: %s", short(s), n, short(next))
		}
	}
	if s.Vote.Has && next.Vote.Term == s.Vote.Term && next.Vote != s.Vote {
		t.Errorf("behind %s stands a vote for %d", short(s), next.Vote.For)
	}
}

// TestP17_2Chance: states and events by chance, whether a replica could come to them or not, against another hand.
func TestP17_2Chance(t *testing.T) {
	roll := dice(172)
	seen := map[string]int{}
	for range 300000 {
		s := anyState(roll)
		if !mayBe(s) {
			t.Fatalf("%s may not be", short(s))
		}
		e := anyEvent(roll, s)
		next, told, err := wantAsModel(t, s, e)
		what := fmt.Sprintf("event %d of role %d: %d", e.Kind, s.Role, err)
		if e.Kind == message && err == api.OK {
			what = fmt.Sprintf("message %d of role %d in term %+d", e.Msg.Kind, s.Role, min(max(e.Msg.Term-s.Vote.Term, -1), 1))
			if len(told) > 0 {
				what += fmt.Sprintf(" tells %d %v", told[0].Kind, told[0].OK)
			}
			if next.Role == leader && s.Role != leader {
				what += " and wins"
			}
		} else if e.Kind == message {
			what = fmt.Sprintf("message %d of role %d: %d", e.Msg.Kind, s.Role, err)
		}
		seen[what]++
		if t.Failed() {
			return
		}
	}
	for _, kind := range []int{bring, bringImage} {
		for _, want := range []string{
			fmt.Sprintf("message %d of role 2: %d", kind, api.ErrState),
			fmt.Sprintf("message %d of role 2 in term +1 tells 4 true", kind),
			fmt.Sprintf("message %d of role 0 in term -1 tells 4 false", kind),
			fmt.Sprintf("message %d of role 0: %d", kind, api.ErrRange),
			fmt.Sprintf("message %d of role 1: %d", kind, api.ErrLong),
		} {
			if seen[want] < 20 {
				t.Errorf("only %d of: %s", seen[want], want)
			}
		}
	}
	for _, want := range []string{
		"event 1 of role 0: 0", "event 1 of role 1: 0", "event 1 of role 2: 0", "event 1 of role 0: 151",
		"event 3 of role 2: 0", "event 3 of role 2: 5", "event 3 of role 2: 51", "event 3 of role 0: 9",
		"event 4 of role 0: 0", "event 4 of role 1: 0", "event 4 of role 2: 0", "event 4 of role 1: 71", "event 4 of role 1: 5",
		"event 0 of role 0: 22", "message 1 of role 0: 1",
		"message 1 of role 0 in term +0 tells 2 true", "message 1 of role 0 in term +0 tells 2 false", "message 1 of role 2 in term +1 tells 2 true",
		"message 2 of role 1 in term +0", "message 2 of role 1 in term +0 tells 3 false and wins", "message 2 of role 0 in term +0",
		"message 3 of role 0 in term +0 tells 4 true", "message 3 of role 0 in term +0 tells 4 false", "message 3 of role 1 in term +0 tells 4 true",
		"message 3 of role 0: 9", "message 3 of role 0: 151", "message 3 of role 1: 9", "message 3 of role 1: 151", "message 3 of role 0: 51",
		"message 4 of role 2 in term +0", "message 4 of role 2 in term +0 tells 3 false", "message 4 of role 2 in term +0 tells 5 false", "message 4 of role 2: 4",
		"message 4 of role 1 in term +0", "message 5 of role 0 in term +0 tells 4 true", "message 5 of role 1 in term +0 tells 4 true",
	} {
		if seen[want] < 20 {
			t.Errorf("only %d of: %s", seen[want], want)
		}
	}
}

// termLists calls f with all lists of up to most terms from low to high.
func termLists(most, low, high int, f func(terms []int)) {
	var grow func(terms []int)
	grow = func(terms []int) {
		f(terms)
		if len(terms) == most {
			return
		}
		for term := low; term <= high; term++ {
			grow(append(slices.Clone(terms), term))
		}
	}
	grow(nil)
}

// TestP17_2SmallBring: all small logs and Commits with all small messages that bring entries, against another hand.
func TestP17_2SmallBring(t *testing.T) {
	told := map[api.Errno]int{}
	for _, base := range []int{0, 2} {
		termLists(3, 1, 2, func(own []int) {
			l := logOf(base, min(base, 1), own...)
			if !slices.IsSorted(own) {
				return
			}
			for commit := base; commit <= last(l); commit++ {
				s := with(aFollower(), func(s *raft.State) { s.Vote.Term, s.Log, s.Commit = 2, l, commit })
				termLists(3, 0, 3, func(terms []int) {
					entries := entriesOf("new", terms...)
					for prev := 0; prev <= last(l)+1; prev++ {
						for prevTerm := range 3 {
							e := of(raft.Msg{Kind: bring, Term: 2, Prev: prev, PrevTerm: prevTerm, Entries: entries, Commit: base + 2})
							_, _, err := wantAsModel(t, s, e)
							told[err]++
						}
					}
				})
			}
		})
	}
	if told[api.OK] < 10000 || told[api.ErrState] < 500 || told[api.ErrTerm] < 5000 {
		t.Errorf("too few of a kind: %v", told)
	}
}

// TestP17_2SmallAnswers: all small Nexts, Matches and answers, against another hand.
func TestP17_2SmallAnswers(t *testing.T) {
	for _, l := range []raftlog.Log{{}, logOf(2, 1), logOf(0, 0, 1, 5, 5), logOf(2, 1, 1, 5), logOf(2, 1, 1, 1), logOf(1, 0, 5, 5, 5)} {
		for next := 1; next <= 8; next++ {
			for match := range 8 {
				for had := range 8 {
					s := with(aLeader(), func(s *raft.State) {
						s.Log, s.Commit, s.Next[0], s.Match = l, l.Base, next, []int{had, last(l), 0}
					})
					for _, ok := range []bool{false, true} {
						wantAsModel(t, s, of(raft.Msg{Kind: answer, Term: 5, OK: ok, Match: match}))
					}
				}
			}
		}
	}
}

// TestP17_2Bounds: every state at a bound with an event of each kind, against another hand.
func TestP17_2Bounds(t *testing.T) {
	for _, s := range goodStates() {
		from := (s.ID + 1) % s.N
		for _, e := range []raft.Event{{Kind: tick}, {Kind: proposal, Data: []byte("a")}, {Kind: snapshot, Index: s.Commit, Snap: []byte("b")}, {Kind: snapshot, Index: s.Log.Base}} {
			wantAsModel(t, s, e)
		}
		for _, term := range []int{s.Vote.Term - 1, s.Vote.Term, s.Vote.Term + 1, mostTerm} {
			for _, m := range messages(term) {
				m.From, m.To = from, s.ID
				wantAsModel(t, s, raft.Event{Kind: message, Msg: m})
				m.Match, m.Prev, m.PrevTerm, m.Commit = last(s.Log), last(s.Log), lastTerm(s.Log), mostIndex
				m.Last, m.LastTerm = last(s.Log), lastTerm(s.Log)
				m.Entries = entriesOf("new", max(term, 1))
				wantAsModel(t, s, raft.Event{Kind: message, Msg: m})
			}
		}
	}
}
