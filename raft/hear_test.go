package raft_test

import (
	"slices"
	"testing"

	"transept/api"
	"transept/raft"
	"transept/raftlog"
	"transept/vote"
)

// of is the event of a message to replica 1.
func of(m raft.Msg) raft.Event {
	m.To = 1
	return raft.Event{Kind: message, Msg: m}
}

// from1 answers a message of replica 1 in a list of its own.
func from1(to, term int, m raft.Msg) []raft.Msg {
	m.From, m.To, m.Term = 1, to, term
	return []raft.Msg{m}
}

// down answers s as a follower of nobody in that term.
func down(s raft.State, term int) raft.State {
	s = cloned(s)
	s.Vote = vote.State{Term: term}
	s.Role, s.HasLeader, s.Leader, s.Votes, s.Next, s.Match = follower, false, 0, nil, nil, nil
	return s
}

// follows answers s as a follower of that leader, of which it has just heard.
func follows(s raft.State, whom int) raft.State {
	s = cloned(s)
	s.Role, s.HasLeader, s.Leader, s.Votes, s.Next, s.Match, s.Elapsed = follower, true, whom, nil, nil, nil, 0
	return s
}

// messages are messages to replica 1 in that term, of each kind, that may be.
func messages(term int) []raft.Msg {
	return []raft.Msg{
		{Kind: askVote, To: 1, Term: term, Last: 6, LastTerm: 5},
		{Kind: giveVote, To: 1, Term: term},
		{Kind: giveVote, To: 1, Term: term, OK: true},
		{Kind: bring, To: 1, Term: term, Prev: 6, PrevTerm: 5, Commit: 6},
		{Kind: bring, To: 1, Term: term, Prev: 9, PrevTerm: 5},
		{Kind: answer, To: 1, Term: term, OK: true, Match: 6},
		{Kind: answer, To: 1, Term: term, Match: 3},
		{Kind: bringImage, To: 1, Term: term, Prev: 6, PrevTerm: 1, Snap: []byte("image")},
	}
}

func TestP17_2MsgErrors(t *testing.T) {
	tried := 0
	for _, s := range roles() {
		wrong := func(m raft.Msg) {
			t.Helper()
			tried++
			wantNoStep(t, s, raft.Event{Kind: message, Msg: m}, api.ErrArg)
		}
		for _, term := range []int{1, 4, 5, 6, mostTerm} {
			for _, m := range messages(term) {
				for _, wrongTerm := range append(ends(), -5, -1, 0, mostTerm+1, mostTerm+2, 1<<41) {
					n := m
					n.Term = wrongTerm
					wrong(n)
				}
				for _, from := range append(ends(), -2, -1, 1, 3, 4, 8, 9, 256, 1<<32+2) {
					n := m
					n.From = from
					wrong(n)
				}
				for _, to := range append(ends(), -2, -1, 0, 2, 3, 4, 8, 9, 256+1, 1<<32+1) {
					n := m
					n.To = to
					wrong(n)
					n.From = 2
					wrong(n)
				}
				for _, kind := range append(ends(), -1, 0, 6, 7, 256+1, 1<<32+1) {
					n := m
					n.Kind = kind
					wrong(n)
				}
			}
		}
		wrong(raft.Msg{})
	}
	if tried < 3000 {
		t.Errorf("only %d messages were refused", tried)
	}
}

// TestP17_2MsgPlaces: of nine replicas each hears each other one, and no one else.
func TestP17_2MsgPlaces(t *testing.T) {
	for n := 1; n <= 9; n++ {
		for id := range n {
			s := sized(aFollower(), id, n)
			for from := -1; from <= 10; from++ {
				for to := -1; to <= 10; to++ {
					e := raft.Event{Kind: message, Msg: raft.Msg{Kind: askVote, From: from, To: to, Term: 4}}
					if to != id || from == id || from < 0 || from >= n {
						wantNoStep(t, s, e, api.ErrArg)
					} else {
						wantStep(t, s, e, s, []raft.Msg{{Kind: giveVote, From: id, To: from, Term: 5}}, api.OK)
					}
				}
			}
		}
	}
}

// TestP17_2ElderTerm: what is told in a term below its own changes nothing, whatever else is wrong with it.
func TestP17_2ElderTerm(t *testing.T) {
	long := make([]byte, mostOctets+1)
	for _, s := range roles() {
		for _, term := range []int{1, 2, 4} {
			for _, from := range []int{0, 2} {
				for kind, told := range map[int][]raft.Msg{
					askVote:    from1(from, 5, raft.Msg{Kind: giveVote}),
					giveVote:   nil,
					bring:      from1(from, 5, raft.Msg{Kind: answer}),
					answer:     nil,
					bringImage: from1(from, 5, raft.Msg{Kind: answer}),
				} {
					for _, m := range []raft.Msg{
						{},
						{Last: 6, LastTerm: 5, OK: true, Prev: 6, PrevTerm: 5, Commit: 6, Match: 6},
						{Last: -1, LastTerm: -1, OK: true, Prev: -1, PrevTerm: -1, Entries: []api.Entry{{Term: -1, Data: long}}, Commit: -1, Match: -1, Snap: long},
						{Last: 9, LastTerm: 9, OK: true, Prev: 9, PrevTerm: 9, Entries: entriesOf("new", 9), Commit: 9, Match: 9, Snap: []byte("new")},
					} {
						m.Kind, m.From, m.Term = kind, from, term
						wantStep(t, s, of(m), s, told, api.OK)
					}
				}
			}
		}
	}
}

// TestP17_2HigherTerm: a higher term makes a follower of any role, whatever the message is.
func TestP17_2HigherTerm(t *testing.T) {
	for _, s := range append(roles(), with(aLeader(), func(s *raft.State) { s.Elapsed = 0 })) {
		for _, term := range []int{6, 7, 1 << 32, mostTerm} {
			d := down(s, term)
			for _, ok := range []bool{false, true} {
				wantStep(t, s, of(raft.Msg{Kind: giveVote, From: 2, Term: term, OK: ok}), d, nil, api.OK)
				wantStep(t, s, of(raft.Msg{Kind: answer, From: 2, Term: term, OK: ok, Match: 6}), d, nil, api.OK)
				wantStep(t, s, of(raft.Msg{Kind: answer, From: 2, Term: term, OK: ok, Match: -1}), d, nil, api.OK)
			}
			// Not voted for: the ticks go on. Voted for: they begin anew.
			wantStep(t, s, of(raft.Msg{Kind: askVote, From: 2, Term: term, Last: 5, LastTerm: 5}), d, from1(2, term, raft.Msg{Kind: giveVote}), api.OK)
			given := with(d, func(s *raft.State) { s.Vote.Has, s.Vote.For, s.Elapsed = true, 2, 0 })
			wantStep(t, s, of(raft.Msg{Kind: askVote, From: 2, Term: term, Last: 6, LastTerm: 5}), given, from1(2, term, raft.Msg{Kind: giveVote, OK: true}), api.OK)
			f := follows(d, 2)
			wantStep(t, s, of(raft.Msg{Kind: bring, From: 2, Term: term, Prev: 6, PrevTerm: 5}), f, from1(2, term, raft.Msg{Kind: answer, OK: true, Match: 6}), api.OK)
			wantStep(t, s, of(raft.Msg{Kind: bring, From: 2, Term: term, Prev: 7, PrevTerm: 5}), f, from1(2, term, raft.Msg{Kind: answer, Match: 6}), api.OK)
			image := with(f, func(s *raft.State) { s.Log, s.Snap, s.Commit = logOf(7, term), []byte("image"), 7 })
			wantStep(t, s, of(raft.Msg{Kind: bringImage, From: 2, Term: term, Prev: 7, PrevTerm: term, Snap: []byte("image")}), image, from1(2, term, raft.Msg{Kind: answer, OK: true, Match: 7}), api.OK)
		}
	}
}

func TestP17_2AskVote(t *testing.T) {
	free := with(aFollower(), func(s *raft.State) { s.Vote = vote.State{Term: 5} })
	for _, c := range []struct {
		s     raft.State
		from  int
		last  int
		term  int
		given bool
	}{
		{free, 0, 6, 5, true},
		{free, 2, 6, 5, true},
		{free, 0, 7, 5, true},
		{free, 0, 5, 5, false},
		{free, 0, 9, 4, false},
		{free, 0, 0, 6, true},
		{free, 0, -1, 6, true},
		{free, 0, mostIndex, 4, false},
		{free, 0, 0, 0, false},
		{aFollower(), 2, 6, 5, true},
		{aFollower(), 2, 5, 5, false},
		{aFollower(), 0, 6, 5, false},
		{aFollower(), 0, 9, 9, false},
		{aCandidate(), 0, 9, 9, false},
		{aCandidate(), 2, 6, 5, false},
		{aLeader(), 0, 9, 9, false},
		{aLeader(), 2, 6, 5, false},
	} {
		want := cloned(c.s)
		if c.given {
			want.Vote, want.Elapsed = vote.State{Term: 5, Has: true, For: c.from}, 0
		}
		ask := raft.Msg{Kind: askVote, From: c.from, Term: 5, Last: c.last, LastTerm: c.term}
		wantStep(t, c.s, of(ask), want, from1(c.from, 5, raft.Msg{Kind: giveVote, OK: c.given}), api.OK)
	}
	// Of a log that a snapshot has all of, and of one without anything.
	for _, l := range []raftlog.Log{logOf(6, 5), {}} {
		s := with(free, func(s *raft.State) { s.Log, s.Commit = l, l.Base })
		given := with(s, func(s *raft.State) { s.Vote, s.Elapsed = vote.State{Term: 5, Has: true}, 0 })
		ask := raft.Msg{Kind: askVote, Term: 5, Last: l.Base, LastTerm: l.BaseTerm}
		wantStep(t, s, of(ask), given, from1(0, 5, raft.Msg{Kind: giveVote, OK: true}), api.OK)
		ask.Last--
		wantStep(t, s, of(ask), s, from1(0, 5, raft.Msg{Kind: giveVote}), api.OK)
	}
}

// won is aCandidate as it wins in term 5 by one vote of two.
func won() (raft.State, []raft.Msg) {
	s := aCandidate()
	s.Role, s.HasLeader, s.Leader, s.Votes, s.Elapsed = leader, true, 1, nil, 0
	s.Log.Entries = append(s.Log.Entries, api.Entry{Term: 5})
	s.Next, s.Match = []int{7, 7, 7}, []int{0, 7, 0}
	m := raft.Msg{Kind: bring, From: 1, To: 0, Term: 5, Prev: 6, PrevTerm: 5, Entries: []api.Entry{{Term: 5}}, Commit: 4}
	m2 := m
	m2.To = 2
	return s, []raft.Msg{m, m2}
}

func TestP17_2Votes(t *testing.T) {
	s, told := won()
	wantStep(t, aCandidate(), of(raft.Msg{Kind: giveVote, From: 0, Term: 5, OK: true}), s, told, api.OK)
	wantStep(t, aCandidate(), of(raft.Msg{Kind: giveVote, From: 2, Term: 5, OK: true}), s, told, api.OK)
	for _, from := range []int{0, 2} {
		wantStep(t, aCandidate(), of(raft.Msg{Kind: giveVote, From: from, Term: 5}), aCandidate(), nil, api.OK)
		for _, other := range []raft.State{aFollower(), aLeader()} {
			for _, ok := range []bool{false, true} {
				wantStep(t, other, of(raft.Msg{Kind: giveVote, From: from, Term: 5, OK: ok}), other, nil, api.OK)
			}
		}
	}
	// Without its own vote the other's is none of two.
	without := with(aCandidate(), func(s *raft.State) { s.Votes[1] = false })
	wantStep(t, without, of(raft.Msg{Kind: giveVote, Term: 5, OK: true}), with(without, func(s *raft.State) { s.Votes[0] = true }), nil, api.OK)
}

// TestP17_2Majority: votes come one by one, each of them twice: the one that makes a majority wins, and none ahead of it.
func TestP17_2Majority(t *testing.T) {
	for n := 2; n <= 9; n++ {
		for id := range n {
			s := raft.State{ID: id, N: n, Vote: vote.State{Term: 2, Has: true, For: id}, Role: candidate, Votes: make([]bool, n), Elapsed: 5}
			s.Votes[id] = true
			votes := 1
			for step := 1; s.Role == candidate; step++ {
				from := (id + n - step) % n
				votes++
				for again := range 2 {
					next, told, err := raft.Step(s, raft.Event{Kind: message, Msg: raft.Msg{Kind: giveVote, From: from, To: id, Term: 2, OK: true}})
					wins := 2*votes > n
					if err != api.OK || (next.Role == leader) != wins {
						t.Fatalf("%d of %d has %d votes: %+v, %d", id, n, votes, next, err)
					}
					if wins && again == 0 && len(told) != n-1 || (!wins || again == 1) && len(told) > 0 {
						t.Errorf("%d of %d has %d votes and tells %+v", id, n, votes, told)
					}
					s = next
				}
			}
			if s.Leader != id || len(s.Votes) > 0 || s.Elapsed != 0 || !slices.Equal(s.Next, numbers(n, 1)) {
				t.Errorf("%d of %d leads: %+v", id, n, s)
			}
		}
	}
}

// TestP17_2WinsFar: who wins behind a snapshot of all, and who has votes for another term's leader.
func TestP17_2WinsFar(t *testing.T) {
	s := with(aCandidate(), func(s *raft.State) { s.Log, s.Commit = logOf(6, 3), 6 })
	want := with(s, func(s *raft.State) {
		s.Role, s.HasLeader, s.Leader, s.Votes, s.Elapsed = leader, true, 1, nil, 0
		s.Log = raftlog.Log{Base: 6, BaseTerm: 3, Entries: []api.Entry{{Term: 5}}}
		s.Next, s.Match = []int{7, 7, 7}, []int{0, 7, 0}
	})
	m := raft.Msg{Kind: bring, From: 1, Term: 5, Prev: 6, PrevTerm: 3, Entries: []api.Entry{{Term: 5}}, Commit: 6}
	m2 := m
	m2.To = 2
	wantStep(t, s, of(raft.Msg{Kind: giveVote, From: 2, Term: 5, OK: true}), want, []raft.Msg{m, m2}, api.OK)
}

func TestP17_2Bring(t *testing.T) {
	fresh := func(terms ...int) []api.Entry { return entriesOf("new", terms...) }
	for _, c := range []struct {
		prev, prevTerm int
		entries        []api.Entry
		commit         int
		kept           int // how many of its own entries stay
		joined         int // how many of the new ones are left out ahead
		wantCommit     int
		match          int
	}{
		{6, 5, nil, 0, 4, 0, 4, 6},
		{6, 5, nil, 5, 4, 0, 5, 6},
		{6, 5, nil, 6, 4, 0, 6, 6},
		{6, 5, nil, 7, 4, 0, 6, 6},
		{6, 5, nil, -1, 4, 0, 4, 6},
		{6, 5, nil, ends()[0], 4, 0, 4, 6},
		{6, 5, nil, ends()[4], 4, 0, 6, 6},
		{5, 5, nil, 6, 4, 0, 5, 5},
		{4, 3, nil, 6, 4, 0, 4, 4},
		{3, 1, nil, 6, 4, 0, 4, 3},
		{2, 1, nil, 6, 4, 0, 4, 2},
		{1, 1, nil, 6, 4, 0, 4, 1},
		{1, 99, nil, 6, 4, 0, 4, 1},
		{0, 0, nil, 6, 4, 0, 4, 0},
		{0, 99, nil, 6, 4, 0, 4, 0},
		// They go on.
		{6, 5, fresh(5), 4, 4, 0, 4, 7},
		{6, 5, fresh(5, 5), 7, 4, 0, 7, 8},
		{6, 5, fresh(5, 5), 9, 4, 0, 8, 8},
		// They are known.
		{2, 1, fresh(1, 3), 6, 4, 2, 4, 4},
		{2, 1, fresh(1, 3, 5), 6, 4, 3, 5, 5},
		{2, 1, fresh(1, 3, 5, 5), 6, 4, 4, 6, 6},
		{2, 1, fresh(1, 3, 5, 5, 5), 7, 4, 4, 7, 7},
		{0, 0, fresh(9, 9), 7, 4, 2, 4, 2},
		{0, 0, fresh(9), 7, 4, 1, 4, 1},
		{0, 7, fresh(9, 9, 1, 3, 5, 5, 5), 7, 4, 6, 7, 7},
		{1, 7, fresh(9, 1, 3, 5, 5), 5, 4, 5, 5, 6},
		// They differ above Commit.
		{4, 3, fresh(4), 4, 2, 0, 4, 5},
		{4, 3, fresh(4), 9, 2, 0, 5, 5},
		{4, 3, fresh(3, 3, 5), 6, 2, 0, 6, 7},
		{2, 1, fresh(1, 3, 4), 5, 2, 2, 5, 5},
		{0, 0, fresh(8, 8, 1, 3, 4, 5), 5, 2, 4, 5, 6},
		{5, 5, fresh(5, 5), 5, 4, 1, 5, 7},
	} {
		for _, s := range []raft.State{aFollower(), aCandidate(), with(aFollower(), func(s *raft.State) { s.HasLeader, s.Leader = false, 0 })} {
			for _, from := range []int{0, 2} {
				want := with(follows(s, from), func(s *raft.State) {
					s.Log.Entries = slices.Concat(s.Log.Entries[:c.kept], c.entries[c.joined:])
					s.Commit = c.wantCommit
				})
				e := of(raft.Msg{Kind: bring, From: from, Term: 5, Prev: c.prev, PrevTerm: c.prevTerm, Entries: c.entries, Commit: c.commit})
				wantStep(t, s, e, want, from1(from, 5, raft.Msg{Kind: answer, OK: true, Match: c.match}), api.OK)
			}
		}
		wantNoStep(t, aLeader(), of(raft.Msg{Kind: bring, Term: 5, Prev: c.prev, PrevTerm: c.prevTerm, Entries: c.entries, Commit: c.commit}), api.ErrState)
	}
}

// TestP17_2BringNot: what does not join is answered, by where it might.
func TestP17_2BringNot(t *testing.T) {
	for _, c := range []struct{ prev, prevTerm, match int }{
		{7, 5, 6}, {8, 5, 6}, {9, 0, 6}, {1 << 32, 5, 6}, {mostIndex, 5, 6},
		{6, 4, 5}, {6, 6, 5}, {6, 0, 5}, {6, -1, 5}, {6, ends()[4], 5},
		{5, 3, 4}, {5, 6, 4},
		{4, 5, 3}, {4, 2, 3},
		{3, 2, 2}, {3, 0, 2},
		{2, 2, 2}, {2, 0, 2}, {2, 5, 2},
	} {
		for _, entries := range [][]api.Entry{nil, entriesOf("new", 5), entriesOf("new", 5, 5, 5), entriesOf("new", 0), {{Term: 5, Data: make([]byte, mostOctets+1)}}, entriesOf("new", 9)} {
			for _, s := range []raft.State{aFollower(), aCandidate()} {
				for _, from := range []int{0, 2} {
					e := of(raft.Msg{Kind: bring, From: from, Term: 5, Prev: c.prev, PrevTerm: c.prevTerm, Entries: entries, Commit: 6})
					wantStep(t, s, e, follows(s, from), from1(from, 5, raft.Msg{Kind: answer, Match: c.match}), api.OK)
				}
			}
		}
	}
	// Without anything, and behind a snapshot of all.
	none := with(aFollower(), func(s *raft.State) { s.Log, s.Commit = raftlog.Log{}, 0 })
	all := with(aFollower(), func(s *raft.State) { s.Log, s.Commit = logOf(6, 5), 6 })
	for _, c := range []struct {
		s                     raft.State
		prev, prevTerm, match int
	}{{none, 0, 1, 0}, {none, 0, -1, 0}, {none, 1, 0, 0}, {none, 1, 1, 0}, {none, 2, 1, 0}, {all, 6, 4, 6}, {all, 7, 5, 6}, {all, 9, 5, 6}} {
		e := of(raft.Msg{Kind: bring, Term: 5, Prev: c.prev, PrevTerm: c.prevTerm, Entries: entriesOf("new", 5)})
		wantStep(t, c.s, e, follows(c.s, 0), from1(0, 5, raft.Msg{Kind: answer, Match: c.match}), api.OK)
	}
}

func TestP17_2BringErrors(t *testing.T) {
	long := []api.Entry{{Term: 5, Data: make([]byte, mostOctets+1)}}
	two := func(a, b []api.Entry) []api.Entry { return slices.Concat(a, b) }
	fresh := func(terms ...int) []api.Entry { return entriesOf("new", terms...) }
	for _, c := range []struct {
		prev, prevTerm int
		entries        []api.Entry
		err            api.Errno
	}{
		// An entry that differs, up to Commit.
		{3, 1, fresh(2), api.ErrState},
		{3, 1, fresh(5), api.ErrState},
		{2, 1, fresh(2), api.ErrState},
		{2, 1, fresh(1, 4), api.ErrState},
		{2, 1, fresh(1, 1, 5, 5), api.ErrState},
		{2, 1, fresh(5, 5, 5, 5, 5), api.ErrState},
		{0, 0, fresh(1, 1, 1, 2), api.ErrState},
		{0, 0, fresh(1, 1, 2), api.ErrState},
		// Terms that may not come next.
		{6, 5, fresh(4), api.ErrTerm},
		{6, 5, fresh(0), api.ErrTerm},
		{6, 5, fresh(-1), api.ErrTerm},
		{6, 5, fresh(5, 4), api.ErrTerm},
		{4, 3, fresh(2), api.ErrTerm},
		{4, 3, fresh(5, 4), api.ErrTerm},
		{6, 5, fresh(mostTerm + 1), api.ErrTerm},
		{0, 0, fresh(1, 1, 1, 3, 5, 5, 1), api.ErrTerm},
		{0, 0, fresh(1, 1, 0), api.ErrTerm},
		{1, 9, fresh(1, 1, 3, 5, 0), api.ErrTerm},
		// Those ahead of what is cut off.
		{3, 1, fresh(0), api.ErrTerm},
		{3, 1, fresh(2, 1), api.ErrTerm},
		{2, 1, fresh(2, 2, 1), api.ErrTerm},
		{3, 1, two(fresh(2), long[:1:1]), api.ErrLong},
		{3, 1, long, api.ErrLong},
		// A last entry of a term above its own.
		{6, 5, fresh(6), api.ErrTerm},
		{6, 5, fresh(5, 6), api.ErrTerm},
		{6, 5, fresh(5, mostTerm), api.ErrTerm},
		{4, 3, fresh(6), api.ErrTerm},
		{2, 1, fresh(1, 3, 5, 5, 5, 7), api.ErrTerm},
		// Behind what is cut off.
		{3, 1, fresh(6), api.ErrState},
		{2, 1, fresh(1, 5, 6), api.ErrState},
		// Long ones.
		{6, 5, long, api.ErrLong},
		{6, 5, two(fresh(5), long), api.ErrLong},
		{4, 3, long[:0:0], api.OK},
		{6, 5, []api.Entry{{Term: 4, Data: long[0].Data}}, api.ErrTerm},
		{6, 5, []api.Entry{{Term: 6, Data: long[0].Data}}, api.ErrLong},
		// Two that may not be: the first counts.
		{6, 5, two(long, fresh(4)), api.ErrLong},
		{6, 5, two(fresh(4), long), api.ErrTerm},
		// What is known is not looked at, but by its term.
		{5, 5, long, api.OK},
	} {
		for _, s := range []raft.State{aFollower(), aCandidate()} {
			e := of(raft.Msg{Kind: bring, Term: 5, Prev: c.prev, PrevTerm: c.prevTerm, Entries: c.entries, Commit: 4})
			if c.err == api.OK {
				wantStep(t, s, e, follows(s, 0), from1(0, 5, raft.Msg{Kind: answer, OK: true, Match: c.prev + len(c.entries)}), api.OK)
				continue
			}
			wantNoStep(t, s, e, c.err)
			for _, prev := range append(ends(), -2, -1, mostIndex+1, mostIndex+2) {
				e.Msg.Prev = prev
				wantNoStep(t, s, e, api.ErrRange)
			}
		}
		for _, prev := range append(ends(), -1, c.prev, mostIndex+1) {
			wantNoStep(t, aLeader(), of(raft.Msg{Kind: bring, Term: 5, Prev: prev, PrevTerm: c.prevTerm, Entries: c.entries}), api.ErrState)
		}
	}
}

// TestP17_2BringAtCommit: with each Commit, entries that differ from a number on are refused up to it, and taken above it.
func TestP17_2BringAtCommit(t *testing.T) {
	for commit := 2; commit <= 6; commit++ {
		for at := 3; at <= 6; at++ {
			for prev := 0; prev < at; prev++ {
				s := with(aFollower(), func(s *raft.State) {
					s.Log, s.Commit = logOf(2, 1, 1, 1, 1, 1), commit
				})
				terms := append(numbers(at-1-prev, 1), 2, 3)
				entries := entriesOf("new", terms...)
				e := of(raft.Msg{Kind: bring, Term: 5, Prev: prev, PrevTerm: 1, Entries: entries, Commit: 5})
				if at <= commit {
					wantNoStep(t, s, e, api.ErrState)
					continue
				}
				want := with(follows(s, 0), func(s *raft.State) {
					s.Log.Entries = slices.Concat(s.Log.Entries[:at-3], entries[at-1-prev:])
					s.Commit = max(commit, min(5, at+1))
				})
				wantStep(t, s, e, want, from1(0, 5, raft.Msg{Kind: answer, OK: true, Match: at + 1}), api.OK)
			}
		}
	}
}

// TestP17_2BringFull: a log that is full takes no entry more, but others in the place of what is cut off.
func TestP17_2BringFull(t *testing.T) {
	for _, l := range fullLogs() {
		s := with(aFollower(), func(s *raft.State) { s.Log, s.Commit = l, l.Base })
		e := of(raft.Msg{Kind: bring, Term: 5, Prev: last(l), PrevTerm: 1, Entries: entriesOf("new", 1), Commit: mostIndex})
		wantNoStep(t, s, e, api.ErrFull)
		e.Msg.Entries = nil
		want := with(follows(s, 0), func(s *raft.State) { s.Commit = last(l) })
		wantStep(t, s, e, want, from1(0, 5, raft.Msg{Kind: answer, OK: true, Match: last(l)}), api.OK)
		if len(l.Entries) == 0 {
			continue
		}
		e.Msg.Prev, e.Msg.Entries = last(l)-1, entriesOf("new", 2)
		want.Log.Entries = slices.Concat(l.Entries[:len(l.Entries)-1], e.Msg.Entries)
		wantStep(t, s, e, want, from1(0, 5, raft.Msg{Kind: answer, OK: true, Match: last(l)}), api.OK)
		e.Msg.Entries = entriesOf("new", 2, 2)
		wantNoStep(t, s, e, api.ErrFull)
	}
}

func TestP17_2Image(t *testing.T) {
	for _, c := range []struct {
		prev, prevTerm int
		want           raftlog.Log
		taken          bool
	}{
		// Up to Commit nothing is taken.
		{1, 1, raftlog.Log{}, false},
		{2, 1, raftlog.Log{}, false},
		{2, 4, raftlog.Log{}, false},
		{3, 1, raftlog.Log{}, false},
		{4, 3, raftlog.Log{}, false},
		{4, 5, raftlog.Log{}, false},
		// The log has it.
		{5, 5, raftlog.Log{Base: 5, BaseTerm: 5, Entries: aFollower().Log.Entries[3:]}, true},
		{6, 5, raftlog.Log{Base: 6, BaseTerm: 5}, true},
		// It has it not.
		{5, 4, raftlog.Log{Base: 5, BaseTerm: 4}, true},
		{5, 1, raftlog.Log{Base: 5, BaseTerm: 1}, true},
		{6, 4, raftlog.Log{Base: 6, BaseTerm: 4}, true},
		{7, 5, raftlog.Log{Base: 7, BaseTerm: 5}, true},
		{7, 1, raftlog.Log{Base: 7, BaseTerm: 1}, true},
		{1 << 32, 3, raftlog.Log{Base: 1 << 32, BaseTerm: 3}, true},
		{mostIndex, 5, raftlog.Log{Base: mostIndex, BaseTerm: 5}, true},
	} {
		for _, snap := range [][]byte{nil, []byte("image"), make([]byte, mostOctets)} {
			e := of(raft.Msg{Kind: bringImage, Term: 5, Prev: c.prev, PrevTerm: c.prevTerm, Snap: snap})
			wantNoStep(t, aLeader(), e, api.ErrState)
			for _, s := range []raft.State{aFollower(), aCandidate()} {
				for _, e.Msg.From = range []int{0, 2} {
					want := follows(s, e.Msg.From)
					if c.taken {
						want.Log, want.Snap, want.Commit = c.want, snap, c.prev
					}
					wantStep(t, s, e, want, from1(e.Msg.From, 5, raft.Msg{Kind: answer, OK: true, Match: c.prev}), api.OK)
				}
			}
		}
	}
	none := with(aFollower(), func(s *raft.State) { s.Log, s.Commit, s.Snap = raftlog.Log{}, 0, nil })
	want := with(follows(none, 0), func(s *raft.State) { s.Log, s.Commit, s.Snap = logOf(1, 1), 1, []byte("one") })
	wantStep(t, none, of(raft.Msg{Kind: bringImage, Term: 5, Prev: 1, PrevTerm: 1, Snap: []byte("one")}), want, from1(0, 5, raft.Msg{Kind: answer, OK: true, Match: 1}), api.OK)
}

func TestP17_2ImageErrors(t *testing.T) {
	long := make([]byte, mostOctets+1)
	for _, s := range []raft.State{aFollower(), aCandidate()} {
		for _, term := range []int{5, 6, mostTerm} {
			for _, prev := range []int{1, 2, 4, 5, 6, 7, mostIndex} {
				for _, prevTerm := range append(ends(), -1, 0, term+1, term+2, mostTerm+1) {
					wantNoStep(t, s, of(raft.Msg{Kind: bringImage, Term: term, Prev: prev, PrevTerm: prevTerm}), api.ErrRange)
					wantNoStep(t, s, of(raft.Msg{Kind: bringImage, Term: term, Prev: prev, PrevTerm: prevTerm, Snap: long}), api.ErrRange)
				}
				for _, prevTerm := range []int{1, 4, term} {
					wantNoStep(t, s, of(raft.Msg{Kind: bringImage, Term: term, Prev: prev, PrevTerm: prevTerm, Snap: long}), api.ErrLong)
					wantNoStep(t, s, of(raft.Msg{Kind: bringImage, Term: term, Prev: prev, PrevTerm: prevTerm, Snap: make([]byte, 3*mostOctets)}), api.ErrLong)
				}
			}
			for _, prev := range append(ends(), -2, -1, 0, mostIndex+1, mostIndex+2) {
				for _, prevTerm := range []int{-1, 0, 1, 5, term, term + 1} {
					wantNoStep(t, s, of(raft.Msg{Kind: bringImage, Term: term, Prev: prev, PrevTerm: prevTerm}), api.ErrRange)
					wantNoStep(t, s, of(raft.Msg{Kind: bringImage, Term: term, Prev: prev, PrevTerm: prevTerm, Snap: long}), api.ErrRange)
				}
			}
		}
	}
	for _, prev := range []int{-1, 0, 5, mostIndex + 1} {
		for _, prevTerm := range []int{-1, 0, 5, 6} {
			wantNoStep(t, aLeader(), of(raft.Msg{Kind: bringImage, Term: 5, Prev: prev, PrevTerm: prevTerm, Snap: long}), api.ErrState)
		}
	}
}

// TestP17_2AnswerOK: who has more is known to have it, and what a majority has of its own term is agreed upon.
func TestP17_2AnswerOK(t *testing.T) {
	for _, c := range []struct {
		had, told, match, commit int
	}{
		{0, 0, 0, 4},
		{0, 1, 1, 4},
		{0, 3, 3, 4},
		{0, 4, 4, 4}, // of an elder term
		{0, 5, 5, 5},
		{0, 6, 6, 6},
		{3, 0, 3, 4},
		{3, 2, 3, 4},
		{5, 3, 5, 5},
		{6, 0, 6, 6},
		{6, 6, 6, 6},
		{9, 6, 9, 6}, // told of more than there is
		{mostIndex, 6, mostIndex, 6},
		{mostIndex, 0, mostIndex, 6},
	} {
		for _, next := range []int{1, 3, 5, 7, 20, mostIndex + 1} {
			for _, from := range []int{0, 2} {
				s := with(aLeader(), func(s *raft.State) {
					s.Match = []int{0, 6, 0}
					s.Match[from], s.Next[from] = c.had, next
				})
				want := with(s, func(s *raft.State) { s.Match[from], s.Next[from], s.Commit = c.match, c.match+1, c.commit })
				wantStep(t, s, of(raft.Msg{Kind: answer, From: from, Term: 5, OK: true, Match: c.told}), want, nil, api.OK)
			}
		}
	}
}

// TestP17_2AnswerNot: who has not what was told is told anew what lies further back.
func TestP17_2AnswerNot(t *testing.T) {
	for _, c := range []struct {
		next, match, told int
		prev, then        int // -1: the snapshot
	}{
		{13, 0, 12, 11, 12}, // the lesser of Next - 1 and Match + 1
		{13, 0, 11, 11, 12},
		{13, 0, 10, 10, 11},
		{13, 0, 5, 5, 6},
		{13, 0, 3, 3, 4},
		{13, 0, 2, 2, 3},
		{13, 0, 1, -1, 3},
		{13, 0, 0, -1, 3},
		{7, 0, 12, 5, 6},
		{4, 0, 12, 2, 3},
		{3, 0, 12, -1, 3},
		{2, 0, 12, -1, 3},
		{1, 0, 12, -1, 3},
		{1, 0, 0, -1, 3},
		{13, 6, 2, 6, 7}, // above what is known
		{13, 6, 6, 6, 7},
		{13, 6, 7, 7, 8},
		{7, 6, 12, 6, 7},
		{1, 6, 0, 6, 7},
		{3, 2, 0, 2, 3},
		{3, 1, 0, -1, 3},
		{13, 12, 0, 12, 13},
		{13, 11, 0, 11, 12},
		{14, 0, 12, 12, 13},
		{15, 0, 12, 12, 13},
		{mostIndex + 1, 0, 12, 12, 13},
		{mostIndex + 1, 20, 12, 12, 21}, // known to have more than there is
		{1, mostIndex, 0, 12, mostIndex + 1},
	} {
		for _, from := range []int{0, 2} {
			s := with(longLeader(), func(s *raft.State) { s.Next[from], s.Match[from] = c.next, c.match })
			want := with(s, func(s *raft.State) { s.Next[from] = c.then })
			m := raft.Msg{Kind: bringImage, Prev: 2, PrevTerm: 1, Snap: []byte("snap")}
			if c.prev >= 0 {
				behind := s.Log.Entries[c.prev-2:]
				m = raft.Msg{Kind: bring, Prev: c.prev, PrevTerm: termAt(s.Log, c.prev), Entries: behind[:min(8, len(behind))], Commit: 4}
			}
			wantStep(t, s, of(raft.Msg{Kind: answer, From: from, Term: 5, Match: c.told}), want, from1(from, 5, m), api.OK)
		}
	}
	// Without a snapshot the first entry is the furthest.
	s := with(aLeader(), func(s *raft.State) { s.Log, s.Commit = logOf(0, 0, 1, 5), 0 })
	for _, next := range []int{1, 2} {
		s.Next[0], s.Match[0] = next, 0
		want := with(s, func(s *raft.State) { s.Next[0] = 1 })
		m := raft.Msg{Kind: bring, Entries: s.Log.Entries}
		wantStep(t, s, of(raft.Msg{Kind: answer, Term: 5}), want, from1(0, 5, m), api.OK)
	}
}

func TestP17_2AnswerErrors(t *testing.T) {
	for _, from := range []int{0, 2} {
		for _, ok := range []bool{false, true} {
			for _, match := range append(ends(), -2, -1, 7, 8, 1<<32, mostIndex) {
				m := raft.Msg{Kind: answer, From: from, Term: 5, OK: ok, Match: match}
				wantNoStep(t, aLeader(), of(m), api.ErrRange)
				for _, s := range []raft.State{aFollower(), aCandidate()} {
					wantStep(t, s, of(m), s, nil, api.OK)
				}
			}
		}
	}
}

// TestP17_2Settles: up to where is agreed, by all Matches of nine and by where the leader's own term begins.
func TestP17_2Settles(t *testing.T) {
	for _, c := range []struct {
		log    raftlog.Log
		commit int
		match  []int
		want   int
	}{
		{logOf(0, 0, 1, 1, 5, 5), 0, []int{0, 4, 3}, 3},
		{logOf(0, 0, 1, 1, 5, 5), 0, []int{0, 4, 2}, 0},
		{logOf(0, 0, 1, 1, 4, 4), 0, []int{0, 4, 4}, 0}, // none of its own
		{logOf(0, 0, 1, 1, 4, 4), 2, []int{0, 4, 4}, 2},
		{logOf(0, 0, 1, 1, 4, 4), 2, []int{0, 5, 5}, 4}, // told of one behind the last
		{logOf(4, 5), 4, []int{0, 4, 4}, 4},
		{logOf(4, 5), 4, []int{0, 5, 5}, 4},
		{logOf(4, 3, 5), 4, []int{0, 5, 5}, 5},
		{logOf(4, 3, 5), 4, []int{0, 5, 4}, 4},
		{logOf(mostIndex-1, 3, 5), mostIndex - 1, []int{0, mostIndex, mostIndex}, mostIndex},
		{logOf(mostIndex-1, 3, 4), mostIndex - 1, []int{0, mostIndex, mostIndex}, mostIndex - 1}, // no number is behind the last
		{logOf(mostIndex, 5), mostIndex, []int{0, mostIndex, mostIndex}, mostIndex},
		{logOf(0, 0, 5, 5, 5, 5, 5), 1, []int{0, 5, 4, 3, 2}, 3},
		{logOf(0, 0, 5, 5, 5, 5, 5), 4, []int{0, 5, 4, 3, 2}, 4},
		{logOf(0, 0, 5, 5, 5, 5, 5), 1, []int{0, 5, 4, 3}, 3},
		{logOf(0, 0, 5, 5, 5, 5, 5), 1, []int{0, 2}, 1},
		{logOf(0, 0, 5, 5, 5, 5, 5), 1, []int{3, 2}, 2},
		{logOf(0, 0, 5, 5, 5, 5, 5), 0, []int{0, 5, 5, 4, 4, 2, 1, 1, 1}, 2},
		{logOf(0, 0, 5, 5, 5, 5, 5), 0, []int{0, 5, 5, 4, 4, 3, 1, 1, 1}, 3},
	} {
		n := len(c.match)
		s := with(sized(aLeader(), 1, n), func(s *raft.State) { s.Log, s.Commit, s.Match, s.Leader = c.log, c.commit, c.match, 1 })
		said := min(c.match[0], last(c.log))
		want := with(s, func(s *raft.State) { s.Commit, s.Next[0] = c.want, said+1 })
		wantStep(t, s, of(raft.Msg{Kind: answer, Term: 5, OK: true, Match: said}), want, nil, api.OK)
	}
}
