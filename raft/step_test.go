package raft_test

import (
	"math"
	"slices"
	"sync"
	"testing"

	"transept/api"
	"transept/raft"
	"transept/raftlog"
	"transept/vote"
)

// aTick is an event.
func aTick() raft.Event { return raft.Event{Kind: tick} }

// asks are what replica 1 of 3 tells the others as it stands with aFollower's log.
func asks(term int) []raft.Msg {
	return []raft.Msg{
		{Kind: askVote, From: 1, To: 0, Term: term, Last: 6, LastTerm: 5},
		{Kind: askVote, From: 1, To: 2, Term: term, Last: 6, LastTerm: 5},
	}
}

// stood is aFollower behind the tick by which it stands in that term.
func stood(term int) raft.State {
	return raft.State{ID: 1, N: 3, Vote: vote.State{Term: term, Has: true, For: 1}, Role: candidate, Log: logOf(2, 1, 1, 3, 5, 5),
		Snap: []byte("snap"), Commit: 4, Votes: []bool{false, true, false}, Elapsed: 0, Timeout: 17, Draws: []int{4}}
}

// longLeader leads with ten entries, 3 to 12, behind a snapshot up to 2.
func longLeader() raft.State {
	return with(aLeader(), func(s *raft.State) { s.Log = logOf(2, 1, 1, 3, 5, 5, 5, 5, 5, 5, 5, 5) })
}

// TestP17_2State: a state that may not be is told ahead of all else.
func TestP17_2State(t *testing.T) {
	for _, s := range append(wrongStates(), raft.State{}) {
		for kind := 0; kind <= 5; kind++ {
			wantNoStep(t, s, raft.Event{Kind: kind, Msg: raft.Msg{Kind: 9}, Data: make([]byte, mostOctets+1), Index: -1}, api.ErrState)
		}
		wantNoStep(t, s, raft.Event{Kind: message, Msg: raft.Msg{Kind: bring, From: 0, To: 1, Term: 5}}, api.ErrState)
	}
}

func TestP17_2Kind(t *testing.T) {
	for _, s := range goodStates() {
		for _, kind := range append(ends(), -2, -1, 0, 5, 6, 256+1, 1<<32+1) {
			wantNoStep(t, s, raft.Event{Kind: kind}, api.ErrKind)
			wantNoStep(t, s, raft.Event{Kind: kind, Msg: raft.Msg{Kind: 9}, Data: make([]byte, mostOctets+1), Index: -1}, api.ErrKind)
		}
	}
}

// TestP17_2Other: what an event of another kind has is not looked at.
func TestP17_2Other(t *testing.T) {
	long := make([]byte, mostOctets+1)
	for _, s := range roles() {
		for _, e := range []raft.Event{{Kind: tick}, {Kind: message, Msg: raft.Msg{Kind: giveVote, To: 1, Term: 5}}, {Kind: proposal, Data: []byte("a")}, {Kind: snapshot, Index: 3}} {
			next, told, err := raft.Step(s, e)
			if e.Kind != message {
				e.Msg = raft.Msg{Kind: 9, Term: -1, Snap: long}
			}
			if e.Kind != proposal {
				e.Data = long
			}
			if e.Kind != snapshot {
				e.Index, e.Snap = -1, long
			}
			wantStep(t, s, e, next, told, err)
		}
	}
}

func TestP17_2TickBelow(t *testing.T) {
	for _, s := range []raft.State{aFollower(), aCandidate()} {
		for _, c := range [][2]int{{0, 2}, {0, 12}, {9, 11}, {10, 12}, {2, 4}, {3, 5}, {0, mostTicks}, {mostTicks - 2, mostTicks}, {1 << 29, mostTicks}} {
			at := with(s, func(s *raft.State) { s.Elapsed, s.Timeout = c[0], c[1] })
			wantStep(t, at, aTick(), with(at, func(s *raft.State) { s.Elapsed++ }), nil, api.OK)
			// In the greatest term, too, as it does not stand.
			at.Vote.Term = mostTerm
			wantStep(t, at, aTick(), with(at, func(s *raft.State) { s.Elapsed++ }), nil, api.OK)
		}
	}
}

func TestP17_2TickStands(t *testing.T) {
	for _, s := range []raft.State{aFollower(), aCandidate(), with(aFollower(), func(s *raft.State) { s.Vote = vote.State{Term: 5}; s.HasLeader, s.Leader = false, 0 })} {
		for _, c := range [][2]int{{11, 12}, {12, 12}, {13, 12}, {100, 12}, {0, 0}, {0, 1}, {1, 1}, {mostTicks, 0}, {mostTicks, 12}, {mostTicks - 1, mostTicks}, {mostTicks, mostTicks}} {
			at := with(s, func(s *raft.State) { s.Elapsed, s.Timeout = c[0], c[1] })
			wantStep(t, at, aTick(), stood(6), asks(6), api.OK)
			at.Vote.Term = mostTerm - 1
			wantStep(t, at, aTick(), stood(mostTerm), asks(mostTerm), api.OK)
			at.Vote.Term = mostTerm
			wantNoStep(t, at, aTick(), api.ErrTerm)
		}
	}
}

// TestP17_2TickTimeout: who stands takes the next timeout.
func TestP17_2TickTimeout(t *testing.T) {
	for _, s := range []raft.State{aFollower(), aCandidate()} {
		s.Elapsed = 20
		want := stood(6)
		for _, d := range timeouts() {
			s.Draws = []int{d[0], -7, 7}
			want.Timeout, want.Draws = d[1], []int{-7, 7}
			wantStep(t, s, aTick(), want, asks(6), api.OK)
		}
		s.Draws = nil
		want.Timeout, want.Draws = 11, nil
		wantStep(t, s, aTick(), want, asks(6), api.OK)
	}
}

// TestP17_2TickAll: whoever stands, of however many, asks all others, by their numbers.
func TestP17_2TickAll(t *testing.T) {
	for n := 2; n <= 9; n++ {
		for id := range n {
			for _, role := range []int{follower, candidate} {
				s := raft.State{ID: id, N: n, Role: role, Timeout: 1}
				if role == candidate {
					s.Votes = slices.Repeat([]bool{true}, n)
				}
				want := raft.State{ID: id, N: n, Vote: vote.State{Term: 1, Has: true, For: id}, Role: candidate, Votes: make([]bool, n), Timeout: id + 10}
				want.Votes[id] = true
				var told []raft.Msg
				for to := range n {
					if to != id {
						told = append(told, raft.Msg{Kind: askVote, From: id, To: to, Term: 1})
					}
				}
				wantStep(t, s, aTick(), want, told, api.OK)
			}
		}
	}
}

// TestP17_2TickAlone: one alone wins as it stands, and settles at once.
func TestP17_2TickAlone(t *testing.T) {
	for _, role := range []int{follower, candidate} {
		s := raft.State{N: 1, Vote: vote.State{Term: 5}, Role: role, Log: logOf(2, 1, 1, 3, 5), Snap: []byte("snap"), Commit: 3, Elapsed: 11, Timeout: 12, Draws: []int{6}}
		if role == candidate {
			s.Votes = []bool{false}
		}
		want := raft.State{N: 1, Vote: vote.State{Term: 6, Has: true}, Role: leader, HasLeader: true, Log: logOf(2, 1, 1, 3, 5), Snap: []byte("snap"), Commit: 6, Next: []int{6}, Match: []int{6}, Timeout: 16}
		want.Log.Entries = append(want.Log.Entries, api.Entry{Term: 6})
		wantStep(t, s, aTick(), want, nil, api.OK)
		s.Elapsed = 10
		wantStep(t, s, aTick(), with(s, func(s *raft.State) { s.Elapsed = 11 }), nil, api.OK)
		s.Elapsed, s.Vote.Term = 11, mostTerm
		wantNoStep(t, s, aTick(), api.ErrTerm)
	}
}

// fullLogs are logs to which nothing can be appended.
func fullLogs() []raftlog.Log {
	return []raftlog.Log{logOf(mostIndex, 1), logOf(mostIndex-1, 1, 1), logOf(0, 0, numbers(mostEntries, 1)...), logOf(7, 1, numbers(mostEntries, 1)...), logOf(mostIndex-mostEntries, 1, numbers(mostEntries, 1)...)}
}

// nearlyFullLogs are logs to which one entry can be appended.
func nearlyFullLogs() []raftlog.Log {
	return []raftlog.Log{logOf(mostIndex-1, 1), logOf(mostIndex-2, 1, 1), logOf(0, 0, numbers(mostEntries-1, 1)...), logOf(mostIndex-mostEntries, 1, numbers(mostEntries-1, 1)...)}
}

// TestP17_2Full: who wins without room for its first entry does not win, and nothing of the step counts.
func TestP17_2Full(t *testing.T) {
	for _, l := range fullLogs() {
		alone := raft.State{N: 1, Vote: vote.State{Term: 5}, Log: l, Commit: l.Base, Timeout: 1}
		wantNoStep(t, alone, aTick(), api.ErrFull)
		alone.Vote.Term = mostTerm
		wantNoStep(t, alone, aTick(), api.ErrTerm)
		s := with(aCandidate(), func(s *raft.State) { s.Log, s.Commit = l, l.Base })
		wantNoStep(t, s, raft.Event{Kind: message, Msg: raft.Msg{Kind: giveVote, From: 2, To: 1, Term: 5, OK: true}}, api.ErrFull)
		s = with(aLeader(), func(s *raft.State) { s.Log, s.Commit = l, l.Base })
		wantNoStep(t, s, raft.Event{Kind: proposal, Data: []byte("a")}, api.ErrFull)
		wantNoStep(t, s, raft.Event{Kind: proposal, Data: make([]byte, mostOctets)}, api.ErrFull)
		wantNoStep(t, s, raft.Event{Kind: proposal, Data: make([]byte, mostOctets+1)}, api.ErrLong)
	}
	for _, l := range nearlyFullLogs() {
		alone := raft.State{N: 1, Vote: vote.State{Term: 5}, Log: l, Commit: l.Base, Timeout: 1}
		next, told, err := raft.Step(alone, aTick())
		if next.Role != leader || next.Commit != last(l)+1 || next.Match[0] != last(l)+1 || next.Next[0] != last(l)+1 || len(told) > 0 || err != api.OK {
			t.Errorf("behind %s one wins: %s, %d", short(l), short(next), err)
		}
		s := with(aLeader(), func(s *raft.State) { s.Log, s.Commit = l, l.Base })
		next, told, err = raft.Step(s, raft.Event{Kind: proposal, Data: []byte("a")})
		if next.Match[1] != last(l)+1 || last(next.Log) != last(l)+1 || len(told) > 0 || err != api.OK {
			t.Errorf("behind %s one proposes: %s, %d", short(l), short(next), err)
		}
	}
}

func TestP17_2TickLeads(t *testing.T) {
	for _, elapsed := range []int{0, 1} {
		s := with(aLeader(), func(s *raft.State) { s.Elapsed = elapsed })
		wantStep(t, s, aTick(), with(s, func(s *raft.State) { s.Elapsed++ }), nil, api.OK)
		s.Timeout, s.Vote.Term = 0, mostTerm // a leader looks at neither
		wantStep(t, s, aTick(), with(s, func(s *raft.State) { s.Elapsed++ }), nil, api.OK)
	}
	for _, elapsed := range []int{2, mostTicks} { // what lies between no leader comes to
		s := with(aLeader(), func(s *raft.State) { s.Elapsed = elapsed })
		wantStep(t, s, aTick(), with(s, func(s *raft.State) { s.Elapsed = 0 }), []raft.Msg{
			{Kind: bring, From: 1, To: 0, Term: 5, Prev: 3, PrevTerm: 1, Entries: s.Log.Entries[1:], Commit: 4},
			{Kind: bring, From: 1, To: 2, Term: 5, Prev: 6, PrevTerm: 5, Commit: 4},
		}, api.OK)
	}
	alone := raft.State{N: 1, Vote: vote.State{Term: 5, Has: true}, Role: leader, HasLeader: true, Next: []int{1}, Match: []int{0}, Elapsed: 2}
	wantStep(t, alone, aTick(), with(alone, func(s *raft.State) { s.Elapsed = 0 }), nil, api.OK)
}

// TestP17_2Tells: what a leader tells one, by its Next.
func TestP17_2Tells(t *testing.T) {
	s := longLeader()
	s.Elapsed = 2
	for next, c := range map[int]struct {
		msg  raft.Msg
		then int
	}{
		1:             {raft.Msg{Kind: bringImage, Prev: 2, PrevTerm: 1, Snap: []byte("snap")}, 3},
		2:             {raft.Msg{Kind: bringImage, Prev: 2, PrevTerm: 1, Snap: []byte("snap")}, 3},
		3:             {raft.Msg{Kind: bring, Prev: 2, PrevTerm: 1, Entries: s.Log.Entries[0:8], Commit: 4}, 3},
		4:             {raft.Msg{Kind: bring, Prev: 3, PrevTerm: 1, Entries: s.Log.Entries[1:9], Commit: 4}, 4},
		5:             {raft.Msg{Kind: bring, Prev: 4, PrevTerm: 3, Entries: s.Log.Entries[2:10], Commit: 4}, 5},
		6:             {raft.Msg{Kind: bring, Prev: 5, PrevTerm: 5, Entries: s.Log.Entries[3:10], Commit: 4}, 6},
		11:            {raft.Msg{Kind: bring, Prev: 10, PrevTerm: 5, Entries: s.Log.Entries[8:10], Commit: 4}, 11},
		12:            {raft.Msg{Kind: bring, Prev: 11, PrevTerm: 5, Entries: s.Log.Entries[9:10], Commit: 4}, 12},
		13:            {raft.Msg{Kind: bring, Prev: 12, PrevTerm: 5, Commit: 4}, 13},
		14:            {raft.Msg{Kind: bring, Prev: 12, PrevTerm: 5, Commit: 4}, 14},
		15:            {raft.Msg{Kind: bring, Prev: 12, PrevTerm: 5, Commit: 4}, 15},
		1 << 32:       {raft.Msg{Kind: bring, Prev: 12, PrevTerm: 5, Commit: 4}, 1 << 32},
		mostIndex:     {raft.Msg{Kind: bring, Prev: 12, PrevTerm: 5, Commit: 4}, mostIndex},
		mostIndex + 1: {raft.Msg{Kind: bring, Prev: 12, PrevTerm: 5, Commit: 4}, mostIndex + 1},
	} {
		c.msg.From, c.msg.To, c.msg.Term = 1, 0, 5
		s.Next = []int{next, 1, 13}
		want := with(s, func(s *raft.State) { s.Elapsed, s.Next[0] = 0, c.then })
		wantStep(t, s, aTick(), want, []raft.Msg{c.msg, {Kind: bring, From: 1, To: 2, Term: 5, Prev: 12, PrevTerm: 5, Commit: 4}}, api.OK)
		c.msg.To = 2
		s.Next = []int{13, 1, next}
		want = with(s, func(s *raft.State) { s.Elapsed, s.Next[2] = 0, c.then })
		wantStep(t, s, aTick(), want, []raft.Msg{{Kind: bring, From: 1, To: 0, Term: 5, Prev: 12, PrevTerm: 5, Commit: 4}, c.msg}, api.OK)
	}
}

// TestP17_2TellsEmpty: a leader without entries, and one without anything.
func TestP17_2TellsEmpty(t *testing.T) {
	for _, l := range []raftlog.Log{{}, logOf(7, 3), logOf(7, 0), logOf(mostIndex, 3)} {
		for _, next := range []int{1, l.Base, l.Base + 1} {
			if next == 0 {
				continue
			}
			s := with(aLeader(), func(s *raft.State) { s.Log, s.Commit, s.Next, s.Elapsed = l, l.Base, []int{next, next, next}, 2 })
			kind, snap, commit := bring, "", l.Base
			if next <= l.Base {
				kind, snap, commit = bringImage, "snap", 0
			}
			want := with(s, func(s *raft.State) { s.Elapsed, s.Next = 0, []int{l.Base + 1, next, l.Base + 1} })
			m := raft.Msg{Kind: kind, From: 1, To: 0, Term: 5, Prev: l.Base, PrevTerm: l.BaseTerm, Commit: commit, Snap: []byte(snap)}
			m2 := m
			m2.To = 2
			wantStep(t, s, aTick(), want, []raft.Msg{m, m2}, api.OK)
		}
	}
}

// TestP17_2TellsNine: each of nine is told what its own Next asks for.
func TestP17_2TellsNine(t *testing.T) {
	for id := range 9 {
		s := with(longLeader(), func(s *raft.State) {
			s.ID, s.N, s.Leader, s.Elapsed = id, 9, id, 2
			s.Next, s.Match = []int{1, 2, 3, 4, 5, 6, 12, 13, 14}, make([]int, 9)
		})
		next, told, err := raft.Step(s, aTick())
		want := with(s, func(s *raft.State) { s.Elapsed = 0 })
		for to := range 2 {
			if to != id {
				want.Next[to] = 3
			}
		}
		if !sameState(next, want) || err != api.OK || len(told) != 8 {
			t.Errorf("of %s: %s, %d", short(s), short(next), err)
		}
		for i, m := range told {
			to := i
			if i >= id {
				to++
			}
			kind := bring
			if to < 2 {
				kind = bringImage
			}
			if m.Kind != kind || m.To != to || m.From != id {
				t.Errorf("message %d of %d is %+v", i, id, m)
			}
		}
	}
}

func TestP17_2Proposal(t *testing.T) {
	s := aLeader()
	for _, data := range [][]byte{nil, {}, {0}, []byte("data"), make([]byte, mostOctets-1), make([]byte, mostOctets)} {
		want := with(s, func(s *raft.State) {
			s.Log.Entries = append(s.Log.Entries, api.Entry{Term: 5, Data: data})
			s.Match[1] = 7
		})
		wantStep(t, s, raft.Event{Kind: proposal, Data: data}, want, nil, api.OK)
	}
	for _, long := range []int{mostOctets + 1, mostOctets + 2, 2 * mostOctets} {
		wantNoStep(t, s, raft.Event{Kind: proposal, Data: make([]byte, long)}, api.ErrLong)
		for _, other := range []raft.State{aFollower(), aCandidate()} {
			wantNoStep(t, other, raft.Event{Kind: proposal, Data: make([]byte, long)}, api.ErrState)
			wantNoStep(t, other, raft.Event{Kind: proposal, Data: []byte("data")}, api.ErrState)
			wantNoStep(t, other, raft.Event{Kind: proposal}, api.ErrState)
		}
	}
	// A leader of term 0: no entry is of it.
	none := raft.State{N: 1, Role: leader, Next: []int{1}, Match: []int{0}}
	wantNoStep(t, none, raft.Event{Kind: proposal, Data: []byte("data")}, api.ErrTerm)
	wantNoStep(t, none, raft.Event{Kind: proposal, Data: make([]byte, mostOctets)}, api.ErrTerm)
	wantNoStep(t, none, raft.Event{Kind: proposal, Data: make([]byte, mostOctets+1)}, api.ErrLong)
}

// TestP17_2ProposalSettles: a proposal is agreed upon with the others' Matches; alone at once.
func TestP17_2ProposalSettles(t *testing.T) {
	for _, c := range []struct {
		match  []int
		commit int
	}{
		{[]int{0, 0, 0}, 4}, // behind it: 7 of its own, so 0
		{[]int{4, 0, 4}, 4}, // 4 is of term 3
		{[]int{5, 0, 4}, 5},
		{[]int{4, 0, 5}, 5},
		{[]int{6, 0, 2}, 6},
		{[]int{6, 6, 6}, 6},
		{[]int{7, 0, 2}, 7},
		{[]int{0, 0, 8}, 7},
		{[]int{0, 0, mostIndex}, 7},
		{[]int{mostIndex, 0, mostIndex}, 7}, // told of more than there is
	} {
		s := with(aLeader(), func(s *raft.State) { s.Match = c.match })
		want := with(s, func(s *raft.State) {
			s.Log.Entries = append(s.Log.Entries, api.Entry{Term: 5, Data: []byte("x")})
			s.Match[1], s.Commit = 7, c.commit
		})
		wantStep(t, s, raft.Event{Kind: proposal, Data: []byte("x")}, want, nil, api.OK)
	}
	alone := raft.State{N: 1, Vote: vote.State{Term: 5, Has: true}, Role: leader, HasLeader: true, Log: logOf(2, 1, 3), Commit: 2, Next: []int{3}, Match: []int{3}}
	want := with(alone, func(s *raft.State) {
		s.Log.Entries = append(s.Log.Entries, api.Entry{Term: 5, Data: []byte("x")})
		s.Match[0], s.Commit = 4, 4
	})
	wantStep(t, alone, raft.Event{Kind: proposal, Data: []byte("x")}, want, nil, api.OK)
}

func TestP17_2Snapshot(t *testing.T) {
	long := make([]byte, mostOctets+1)
	for _, s := range roles() {
		for index, l := range map[int]raftlog.Log{2: logOf(2, 1, 1, 3, 5, 5), 3: logOf(3, 1, 3, 5, 5), 4: logOf(4, 3, 5, 5)} {
			l.Entries = s.Log.Entries[index-2:]
			for _, snap := range [][]byte{nil, {}, []byte("new"), make([]byte, mostOctets-1), make([]byte, mostOctets)} {
				want := with(s, func(s *raft.State) { s.Log, s.Snap = l, snap })
				wantStep(t, s, raft.Event{Kind: snapshot, Index: index, Snap: snap}, want, nil, api.OK)
			}
			for _, n := range []int{1, 2, mostOctets} {
				wantNoStep(t, s, raft.Event{Kind: snapshot, Index: index, Snap: make([]byte, mostOctets+n)}, api.ErrLong)
			}
		}
		for _, index := range append(ends(), -1, 0, 1, 5, 6, 7, 1<<32+3) {
			wantNoStep(t, s, raft.Event{Kind: snapshot, Index: index, Snap: []byte("new")}, api.ErrNone)
			wantNoStep(t, s, raft.Event{Kind: snapshot, Index: index, Snap: long}, api.ErrNone)
		}
		all := with(s, func(s *raft.State) { s.Commit = 6 })
		want := with(all, func(s *raft.State) { s.Log, s.Snap = logOf(6, 5), []byte("all") })
		wantStep(t, all, raft.Event{Kind: snapshot, Index: 6, Snap: []byte("all")}, want, nil, api.OK)
		none := with(s, func(s *raft.State) { s.Log, s.Commit, s.Snap = raftlog.Log{}, 0, nil })
		wantStep(t, none, raft.Event{Kind: snapshot, Snap: []byte("none")}, with(none, func(s *raft.State) { s.Snap = []byte("none") }), nil, api.OK)
		wantNoStep(t, none, raft.Event{Kind: snapshot, Index: 1}, api.ErrNone)
		far := with(s, func(s *raft.State) { s.Log, s.Commit = logOf(mostIndex-1, 5, 5), mostIndex })
		want = with(far, func(s *raft.State) { s.Log, s.Snap = logOf(mostIndex, 5), []byte("far") })
		wantStep(t, far, raft.Event{Kind: snapshot, Index: mostIndex, Snap: []byte("far")}, want, nil, api.OK)
		wantNoStep(t, far, raft.Event{Kind: snapshot, Index: mostIndex + 1}, api.ErrNone)
	}
}

// TestSameAgain: the same arguments, the same answers (P3), from goroutines that ask at once.
func TestSameAgain(t *testing.T) {
	s := longLeader()
	s.Elapsed = 2
	f := aFollower()
	f.Elapsed = 11
	want, told, _ := raft.Step(s, aTick())
	var all sync.WaitGroup
	for range 8 {
		all.Go(func() {
			for range 200 {
				wantStep(t, s, aTick(), want, told, api.OK)
				wantStep(t, f, aTick(), stood(6), asks(6), api.OK)
				wantNoStep(t, f, raft.Event{Kind: proposal}, api.ErrState)
				wantRestart(t, s, restarted(s), api.OK)
				wantNew(t, 1, 3, []int{math.MinInt}, raft.State{ID: 1, N: 3, Timeout: 12}, api.OK)
			}
		})
	}
	all.Wait()
}
