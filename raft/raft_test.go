package raft_test

import (
	"fmt"
	"math"
	"slices"
	"testing"

	"transept/api"
	"transept/raft"
	"transept/raftlog"
	"transept/vote"
)

const (
	mostTerm    = 1 << 40
	mostIndex   = 1 << 40
	mostOctets  = 4096
	mostEntries = 4096
	mostDraws   = 4096
	mostTicks   = 1 << 30

	follower  = 0
	candidate = 1
	leader    = 2

	tick     = 1
	message  = 2
	proposal = 3
	snapshot = 4

	askVote    = 1
	giveVote   = 2
	bring      = 3
	answer     = 4
	bringImage = 5
)

// change changes a state.
type change func(s *raft.State)

// ends are the ends of int, and numbers that one of 32 bits takes for others.
func ends() []int {
	return []int{math.MinInt, math.MinInt + 1, -1 << 32, math.MaxInt - 1, math.MaxInt}
}

// logOf answers a log behind (base, baseTerm) of entries of these terms, each with Data of its own.
func logOf(base, baseTerm int, terms ...int) raftlog.Log {
	return raftlog.Log{Base: base, BaseTerm: baseTerm, Entries: entriesOf("own", terms...)}
}

func entriesOf(name string, terms ...int) []api.Entry {
	var l []api.Entry
	for i, term := range terms {
		l = append(l, api.Entry{Term: term, Data: fmt.Appendf(nil, "%s %d", name, i)})
	}
	return l
}

// numbers answers n of that number.
func numbers(n, of int) []int {
	return slices.Repeat([]int{of}, n)
}

// aFollower is replica 1 of 3 in term 5: its log has 3 to 6, up to 4 agreed upon, behind a snapshot up to 2.
func aFollower() raft.State {
	return raft.State{ID: 1, N: 3, Vote: vote.State{Term: 5, Has: true, For: 2}, HasLeader: true, Leader: 2, Log: logOf(2, 1, 1, 3, 5, 5),
		Snap: []byte("snap"), Commit: 4, Elapsed: 3, Timeout: 12, Draws: []int{7, 4}}
}

// aCandidate is the same, but stands in term 5.
func aCandidate() raft.State {
	s := aFollower()
	s.Role, s.HasLeader, s.Leader = candidate, false, 0
	s.Vote.For = 1
	s.Votes = []bool{false, true, false}
	return s
}

// aLeader is the same, but leads in term 5.
func aLeader() raft.State {
	s := aFollower()
	s.Role, s.HasLeader, s.Leader = leader, true, 1
	s.Vote.For = 1
	s.Next, s.Match = []int{4, 5, 7}, []int{3, 6, 2}
	s.Elapsed = 1
	return s
}

func roles() []raft.State {
	return []raft.State{aFollower(), aCandidate(), aLeader()}
}

// cloned answers s in memory of its own.
func cloned(s raft.State) raft.State {
	s.Log.Entries = slices.Clone(s.Log.Entries)
	s.Votes, s.Next, s.Match, s.Draws = slices.Clone(s.Votes), slices.Clone(s.Next), slices.Clone(s.Match), slices.Clone(s.Draws)
	return s
}

// with answers s with these changes.
func with(s raft.State, changes ...change) raft.State {
	s = cloned(s)
	for _, c := range changes {
		c(&s)
	}
	return s
}

func sameEntries(a, b []api.Entry) bool {
	return slices.EqualFunc(a, b, func(x, y api.Entry) bool { return x.Term == y.Term && string(x.Data) == string(y.Data) })
}

func sameState(a, b raft.State) bool {
	return a.ID == b.ID && a.N == b.N && a.Vote == b.Vote && a.Role == b.Role && a.HasLeader == b.HasLeader && a.Leader == b.Leader &&
		a.Log.Base == b.Log.Base && a.Log.BaseTerm == b.Log.BaseTerm && sameEntries(a.Log.Entries, b.Log.Entries) &&
		string(a.Snap) == string(b.Snap) && a.Commit == b.Commit && slices.Equal(a.Votes, b.Votes) && slices.Equal(a.Next, b.Next) &&
		slices.Equal(a.Match, b.Match) && a.Elapsed == b.Elapsed && a.Timeout == b.Timeout && slices.Equal(a.Draws, b.Draws)
}

func sameMsg(a, b raft.Msg) bool {
	return a.Kind == b.Kind && a.From == b.From && a.To == b.To && a.Term == b.Term && a.Last == b.Last && a.LastTerm == b.LastTerm &&
		a.OK == b.OK && a.Prev == b.Prev && a.PrevTerm == b.PrevTerm && sameEntries(a.Entries, b.Entries) && a.Commit == b.Commit &&
		a.Match == b.Match && string(a.Snap) == string(b.Snap)
}

// short answers what a test tells of a thing.
func short(v any) string {
	s := fmt.Sprintf("%+v", v)
	return s[:min(len(s), 500)]
}

func wantStep(t *testing.T, s raft.State, e raft.Event, next raft.State, told []raft.Msg, err api.Errno) {
	t.Helper()
	got, msgs, gotErr := raft.Step(s, e)
	if gotErr != err || !sameState(got, next) || !slices.EqualFunc(msgs, told, sameMsg) {
		t.Errorf("Step(%s, %s)\n= %s\n  %s, %d\nwant\n  %s\n  %s, %d", short(s), short(e), short(got), short(msgs), gotErr, short(next), short(told), err)
	}
}

// wantNoStep wants an error, with nothing beside it.
func wantNoStep(t *testing.T, s raft.State, e raft.Event, err api.Errno) {
	t.Helper()
	wantStep(t, s, e, raft.State{}, nil, err)
}

func wantCheck(t *testing.T, s raft.State, want api.Errno) {
	t.Helper()
	if got := raft.Check(s); got != want {
		t.Errorf("Check(%s) = %d, want %d", short(s), got, want)
	}
}

func wantNew(t *testing.T, id, n int, draws []int, want raft.State, err api.Errno) {
	t.Helper()
	if got, gotErr := raft.New(id, n, draws); gotErr != err || !sameState(got, want) {
		t.Errorf("New(%d, %d, %s) = %s, %d, want %s, %d", id, n, short(draws), short(got), gotErr, short(want), err)
	}
}

func wantRestart(t *testing.T, s, want raft.State, err api.Errno) {
	t.Helper()
	if got, gotErr := raft.Restart(s); gotErr != err || !sameState(got, want) {
		t.Errorf("Restart(%s)\n= %s, %d\nwant %s, %d", short(s), short(got), gotErr, short(want), err)
	}
}

// timeouts are draws, and the timeout that each of them makes.
func timeouts() [][2]int {
	return [][2]int{{0, 10}, {1, 11}, {4, 14}, {8, 18}, {9, 19}, {10, 10}, {11, 11}, {19, 19}, {20, 10}, {127, 17}, {1 << 32, 16}, {math.MaxInt - 7, 10},
		{math.MaxInt - 1, 16}, {math.MaxInt, 17}, {-1, 19}, {-2, 18}, {-9, 11}, {-10, 10}, {-11, 19}, {-15, 15}, {-20, 10}, {-1 << 32, 14},
		{math.MinInt, 12}, {math.MinInt + 1, 13}, {math.MinInt + 8, 10}}
}

func TestExample(t *testing.T) {
	s, err := raft.New(0, 1, nil)
	for i := range 10 {
		if err != api.OK || s.Role != follower || s.Commit != 0 {
			t.Fatalf("behind %d ticks: %+v, %d", i, s, err)
		}
		var told []raft.Msg
		if s, told, err = raft.Step(s, raft.Event{Kind: tick}); len(told) > 0 {
			t.Errorf("one replica alone tells %+v", told)
		}
	}
	if err != api.OK || s.Role != leader || s.Vote.Term != 1 || s.Commit != 1 {
		t.Errorf("behind ten ticks: %+v, %d", s, err)
	}
}

func TestP17_1New(t *testing.T) {
	for n := 1; n <= 9; n++ {
		for id := range n {
			wantNew(t, id, n, nil, raft.State{ID: id, N: n, Timeout: 10 + id}, api.OK)
			wantNew(t, id, n, []int{}, raft.State{ID: id, N: n, Timeout: 10 + id}, api.OK)
			for _, d := range timeouts() {
				wantNew(t, id, n, []int{d[0]}, raft.State{ID: id, N: n, Timeout: d[1]}, api.OK)
				wantNew(t, id, n, []int{d[0], 3, d[0], -5}, raft.State{ID: id, N: n, Timeout: d[1], Draws: []int{3, d[0], -5}}, api.OK)
			}
		}
	}
	for _, count := range []int{1, 2, mostDraws - 1, mostDraws} {
		wantNew(t, 2, 3, numbers(count, 16), raft.State{ID: 2, N: 3, Timeout: 16, Draws: numbers(count-1, 16)}, api.OK)
	}
}

func TestP17_1NewErrors(t *testing.T) {
	some := [][]int{nil, {3}, numbers(mostDraws, 1), numbers(mostDraws+1, 1)} // the last ones are too many: told behind the others
	for _, draws := range some {
		for _, n := range append(ends(), -9, -2, -1, 0, 10, 11, 16, 256+3, 1<<32+3) {
			for _, id := range append(ends(), -1, 0, 1, 3, n-1, n, n+1) {
				wantNew(t, id, n, draws, raft.State{}, api.ErrRange)
			}
		}
		for n := 1; n <= 9; n++ {
			for _, id := range append(ends(), -9, -2, -1, n, n+1, 9, 10, 256, 1<<32) {
				wantNew(t, id, n, draws, raft.State{}, api.ErrRange)
			}
		}
	}
	for _, count := range []int{mostDraws + 1, mostDraws + 2, 2 * mostDraws} {
		wantNew(t, 0, 1, numbers(count, 1), raft.State{}, api.ErrCount)
		wantNew(t, 8, 9, numbers(count, 1), raft.State{}, api.ErrCount)
	}
}

// goodStates are states that may be: those of each role, and each with a part of it at a bound.
func goodStates() []raft.State {
	l := roles()
	for _, s := range roles() {
		for n := 1; n <= 9; n++ {
			for id := range n {
				l = append(l, sized(s, id, n))
			}
		}
		for _, c := range []change{
			func(s *raft.State) { s.HasLeader, s.Leader = false, 0 },
			func(s *raft.State) { s.HasLeader, s.Leader = true, 0 },
			func(s *raft.State) { s.HasLeader, s.Leader = true, 2 },
			func(s *raft.State) { s.Vote = vote.State{Term: 5} },
			func(s *raft.State) { s.Vote = vote.State{Term: mostTerm, Has: true, For: 8} },
			func(s *raft.State) { s.Vote, s.Log, s.Commit = vote.State{}, raftlog.Log{}, 0 },
			func(s *raft.State) { s.Log.Entries[3].Term, s.Vote.Term = mostTerm, mostTerm },
			func(s *raft.State) { s.Log, s.Commit = logOf(2, 5), 2 },
			func(s *raft.State) { s.Log, s.Commit = logOf(2, 0), 2 },
			func(s *raft.State) { s.Log, s.Commit = logOf(mostIndex, 5), mostIndex },
			func(s *raft.State) { s.Log, s.Commit = logOf(mostIndex-2, 5, 5, 5), mostIndex },
			func(s *raft.State) { s.Log, s.Commit = logOf(2, 0, numbers(mostEntries, 1)...), 2+mostEntries },
			func(s *raft.State) { s.Log.Entries[1].Data = make([]byte, mostOctets) },
			func(s *raft.State) { s.Snap = nil },
			func(s *raft.State) { s.Snap = make([]byte, mostOctets) },
			func(s *raft.State) { s.Log, s.Commit = raftlog.Log{}, 0 }, // a snapshot up to nothing
			func(s *raft.State) { s.Commit = 2 },
			func(s *raft.State) { s.Commit = 6 },
			func(s *raft.State) { s.Elapsed = 0 },
			func(s *raft.State) { s.Elapsed = mostTicks },
			func(s *raft.State) { s.Timeout = 0 },
			func(s *raft.State) { s.Timeout = mostTicks },
			func(s *raft.State) { s.Draws = nil },
			func(s *raft.State) { s.Draws = ends() },
			func(s *raft.State) { s.Draws = numbers(mostDraws, -1) },
		} {
			l = append(l, with(s, c))
		}
	}
	return append(l, goodLists()...)
}

// sized answers s as replica id of n, with lists of that length where it has any.
func sized(s raft.State, id, n int) raft.State {
	s = cloned(s)
	s.ID, s.N = id, n
	if s.HasLeader {
		s.Leader = n - 1
	}
	if s.Role == candidate {
		s.Votes = make([]bool, n)
	}
	if s.Role == leader {
		s.Next, s.Match = numbers(n, 3), numbers(n, 2)
	}
	return s
}

// goodLists are states that may be by their lists.
func goodLists() []raft.State {
	var l []raft.State
	for i := range 3 {
		for _, n := range []int{1, 2, 1 << 32, mostIndex, mostIndex + 1} {
			l = append(l, with(aLeader(), func(s *raft.State) { s.Next[i] = n }))
			l = append(l, with(aLeader(), func(s *raft.State) { s.Match[i] = n - 1 }))
		}
		l = append(l, with(aCandidate(), func(s *raft.State) { s.Votes[i] = !s.Votes[i] }))
	}
	empty := aFollower()
	empty.Votes, empty.Next, empty.Match = []bool{}, []int{}, []int{}
	return append(l, empty)
}

// wrongStates are states that may not be, each by one word of the chapter.
func wrongStates() []raft.State {
	var l []raft.State
	for _, s := range roles() {
		for _, n := range append(ends(), -1, 0, 10, 11, 256+3) {
			if n >= 10 && n <= 300 {
				l = append(l, sized(s, 1, n))
			}
			l = append(l, with(s, func(s *raft.State) { s.N = n }))
		}
		for _, id := range append(ends(), -1, 3, 4, 9, 256+1) {
			l = append(l, with(s, func(s *raft.State) { s.ID = id }))
			l = append(l, with(s, func(s *raft.State) { s.HasLeader, s.Leader = true, id }))
		}
		for _, id := range append(ends(), -1, 1, 2, 3) {
			l = append(l, with(s, func(s *raft.State) { s.HasLeader, s.Leader = false, id }))
		}
		for _, role := range append(ends(), -1, 3, 4, 256, 1<<32) {
			l = append(l, with(s, func(s *raft.State) { s.Role = role }))
			l = append(l, with(s, func(s *raft.State) { s.Role, s.Votes, s.Next, s.Match = role, nil, nil, nil }))
		}
		for _, n := range append(ends(), -1, mostTicks+1, mostTicks+2, 1<<32) {
			l = append(l, with(s, func(s *raft.State) { s.Elapsed = n }))
			l = append(l, with(s, func(s *raft.State) { s.Timeout = n }))
		}
		for _, n := range append(ends(), -1, 0, 1, 7, 8, 1<<32+4) {
			l = append(l, with(s, func(s *raft.State) { s.Commit = n }))
		}
		for _, c := range wrongChanges() {
			l = append(l, with(s, c))
		}
	}
	return append(l, wrongLists()...)
}

// wrongChanges make a state of any role one that may not be, by what it has and by its term.
func wrongChanges() []change {
	return []change{
		func(s *raft.State) { s.Vote.Term = mostTerm + 1 },
		func(s *raft.State) { s.Vote.Term = math.MaxInt },
		func(s *raft.State) { s.Vote = vote.State{Term: 5, For: 1} },
		func(s *raft.State) { s.Vote.For = -1 },
		func(s *raft.State) { s.Vote.For = 9 },
		func(s *raft.State) { s.Vote.Term = 4 }, // its last entry is of term 5
		func(s *raft.State) { s.Vote.Term = 0 },
		func(s *raft.State) { s.Vote.Term, s.Log, s.Commit = -1, raftlog.Log{}, 0 },
		func(s *raft.State) { s.Vote.Term, s.Log, s.Commit = math.MinInt, raftlog.Log{}, 0 },
		func(s *raft.State) { s.Log.Entries[3].Term = 6 },
		func(s *raft.State) { s.Log.Entries[3].Term = mostTerm },
		func(s *raft.State) { s.Log, s.Commit = logOf(2, 6), 2 },
		func(s *raft.State) { s.Log.Base, s.Commit = -1, -1 },
		func(s *raft.State) { s.Log.Base, s.Commit = math.MinInt, math.MinInt },
		func(s *raft.State) { s.Log, s.Commit = logOf(mostIndex+1, 5), mostIndex+1 },
		func(s *raft.State) { s.Log, s.Commit = logOf(mostIndex-1, 5, 5, 5), mostIndex },
		func(s *raft.State) { s.Log.Base = 0 }, // with a term
		func(s *raft.State) { s.Log.BaseTerm = -1 },
		func(s *raft.State) { s.Log.BaseTerm = 2 },
		func(s *raft.State) { s.Log.Entries[1].Term = 0 },
		func(s *raft.State) { s.Log.Entries[2].Term = 2 },
		func(s *raft.State) { s.Log, s.Commit = logOf(2, 0, 0), 2 },
		func(s *raft.State) { s.Log.Entries[1].Data = make([]byte, mostOctets+1) },
		func(s *raft.State) { s.Log.Entries[3].Data = make([]byte, mostOctets+1) },
		func(s *raft.State) { s.Log, s.Commit = logOf(2, 0, numbers(mostEntries+1, 1)...), 2 },
		func(s *raft.State) { s.Snap = make([]byte, mostOctets+1) },
		func(s *raft.State) { s.Snap = make([]byte, 2*mostOctets) },
		func(s *raft.State) { s.Draws = numbers(mostDraws+1, 3) },
		func(s *raft.State) { s.Draws = numbers(2*mostDraws, 3) },
	}
}

// wrongLists are states that may not be by their lists: those of another role, of another length, with wrong numbers.
func wrongLists() []raft.State {
	var l []raft.State
	for n := range 11 {
		if n != 0 {
			l = append(l, with(aFollower(), func(s *raft.State) { s.Votes = make([]bool, n) }))
			l = append(l, with(aFollower(), func(s *raft.State) { s.Next = numbers(n, 3) }))
			l = append(l, with(aFollower(), func(s *raft.State) { s.Match = numbers(n, 2) }))
			l = append(l, with(aFollower(), func(s *raft.State) { s.Next, s.Match = numbers(n, 3), numbers(n, 2) }))
			l = append(l, with(aCandidate(), func(s *raft.State) { s.Next = numbers(n, 3) }))
			l = append(l, with(aCandidate(), func(s *raft.State) { s.Match = numbers(n, 2) }))
			l = append(l, with(aCandidate(), func(s *raft.State) { s.Next, s.Match = numbers(n, 3), numbers(n, 2) }))
			l = append(l, with(aLeader(), func(s *raft.State) { s.Votes = make([]bool, n) }))
		}
		if n != 3 {
			l = append(l, with(aCandidate(), func(s *raft.State) { s.Votes = make([]bool, n) }))
			l = append(l, with(aLeader(), func(s *raft.State) { s.Next = numbers(n, 3) }))
			l = append(l, with(aLeader(), func(s *raft.State) { s.Match = numbers(n, 2) }))
			l = append(l, with(aLeader(), func(s *raft.State) { s.Next, s.Match = numbers(n, 3), numbers(n, 2) }))
		}
	}
	for i := range 3 {
		for _, n := range append(ends(), -2, -1, mostIndex+2, mostIndex+3, 1<<41) {
			l = append(l, with(aLeader(), func(s *raft.State) { s.Next[i] = n }))
			l = append(l, with(aLeader(), func(s *raft.State) { s.Match[i] = n }))
		}
		l = append(l, with(aLeader(), func(s *raft.State) { s.Next[i] = 0 }))
		l = append(l, with(aLeader(), func(s *raft.State) { s.Match[i] = mostIndex + 1 }))
	}
	return l
}

func TestP17_1Check(t *testing.T) {
	wantCheck(t, raft.State{}, api.ErrState)
	for _, s := range goodStates() {
		wantCheck(t, s, api.OK)
		if !mayBe(s) {
			t.Errorf("by another hand %s may not be", short(s))
		}
	}
	for _, s := range wrongStates() {
		wantCheck(t, s, api.ErrState)
		if mayBe(s) {
			t.Errorf("by another hand %s may be", short(s))
		}
	}
}

// restarted is Restart by another hand, of a state that may be.
func restarted(s raft.State) raft.State {
	r := raft.State{ID: s.ID, N: s.N, Vote: s.Vote, Log: s.Log, Snap: s.Snap, Commit: s.Log.Base}
	r.Timeout, r.Draws = nextTimeout(s.ID, s.Draws)
	return r
}

func TestP17_1Restart(t *testing.T) {
	for _, s := range roles() {
		want := raft.State{ID: 1, N: 3, Vote: s.Vote, Log: s.Log, Snap: []byte("snap"), Commit: 2, Timeout: 17, Draws: []int{4}}
		wantRestart(t, s, want, api.OK)
		want.Timeout, want.Draws = 14, nil
		wantRestart(t, with(s, func(s *raft.State) { s.Draws = []int{4} }), want, api.OK)
		want.Timeout = 11
		wantRestart(t, with(s, func(s *raft.State) { s.Draws = nil }), want, api.OK)
		for _, d := range timeouts() {
			want.Timeout, want.Draws = d[1], []int{5, 6}
			wantRestart(t, with(s, func(s *raft.State) { s.Draws = []int{d[0], 5, 6} }), want, api.OK)
		}
	}
	for _, s := range goodStates() {
		wantRestart(t, s, restarted(s), api.OK)
		wantCheck(t, restarted(s), api.OK)
	}
	for _, s := range wrongStates() {
		wantRestart(t, s, raft.State{}, api.ErrState)
	}
}
