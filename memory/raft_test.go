package memory_test

import (
	"math"
	"testing"

	"transept/api"
	"transept/raft"
	"transept/raftlog"
	"transept/vote"
)

// replicas are states of each role with something in every list that it may have, and some that may not be.
func replicas() []raft.State {
	s := raft.State{ID: 1, N: 3, Vote: vote.State{Term: 5, Has: true, For: 1}, Log: raftlog.Log{Base: 5, BaseTerm: 2, Entries: logEntries(2, 3, 5, 5)},
		Snap: []byte("image"), Commit: 7, Elapsed: 9, Timeout: 10, Draws: []int{3, -4, 5}}
	f, c, l := s, s, s
	f.HasLeader, f.Leader = true, 2
	c.Role, c.Votes = 1, []bool{false, true, false}
	l.Role, l.HasLeader, l.Leader, l.Elapsed = 2, true, 1, 2
	l.Next, l.Match = []int{7, 8, 5}, []int{6, 9, 0}
	young, low := f, f
	young.Elapsed = 3
	low.Draws = nil
	behind := f
	behind.Log, behind.Commit = raftlog.Log{Base: 5, BaseTerm: 2}, 5
	images, entries, alone := l, l, l
	images.Next = []int{1, 9, 5}
	entries.Next = []int{6, 9, 7}
	alone.N, alone.ID, alone.Leader, alone.Next, alone.Match = 1, 0, 0, []int{9}, []int{9}
	stands := alone
	stands.Role, stands.HasLeader, stands.Next, stands.Match, stands.Elapsed = 0, false, nil, nil, 9
	wrong, full := f, l
	wrong.Commit = 4
	full.Log, full.Commit = raftlog.Log{Base: api.MaxIndex, BaseTerm: 2}, api.MaxIndex
	return []raft.State{f, c, l, young, low, behind, images, entries, alone, stands, wrong, full, {}}
}

// raftEvents are events with something in every list, some of which are refused.
func raftEvents() []raft.Event {
	entries := logEntries(2, 3, 5, 5, 5, 5)
	var l []raft.Event
	for _, index := range []int{4, 5, 6, 7, 8, math.MinInt, math.MaxInt} {
		l = append(l, raft.Event{Kind: 4, Data: []byte("data"), Index: index, Snap: []byte("snap")})
	}
	for _, kind := range []int{0, 1, 2, 3, 5} {
		l = append(l, raft.Event{Kind: kind, Data: []byte("data"), Snap: []byte("snap"), Msg: raft.Msg{Kind: 6, To: 1, Term: 5, Entries: entries, Snap: []byte("other")}})
	}
	l = append(l, raft.Event{Kind: 3}, raft.Event{Kind: 3, Data: make([]byte, 4096)}, raft.Event{Kind: 3, Data: make([]byte, 4097)}, raft.Event{Kind: 4, Index: 6, Snap: make([]byte, 4097)})
	for _, from := range []int{0, 2} {
		for kind := 1; kind <= 5; kind++ {
			for _, prev := range []int{0, 4, 5, 6, 9, 10, -1} {
				m := raft.Msg{Kind: kind, From: from, To: 1, Term: 5, Last: prev, LastTerm: 5, Prev: prev, PrevTerm: 5, Entries: entries[3:], Commit: 9, Match: prev, Snap: []byte("other")}
				switch prev {
				case 5:
					m.PrevTerm, m.Entries = 2, entries
				case 6:
					m.PrevTerm, m.Entries = 2, entries[1:]
				case 4:
					m.Entries = logEntries(1, 2, 3, 4, 5)
				}
				l = append(l, raft.Event{Kind: 2, Msg: m})
				m.OK = true
				l = append(l, raft.Event{Kind: 2, Msg: m})
				if m.Term = prev; prev == 4 || prev == 6 {
					l = append(l, raft.Event{Kind: 2, Msg: m, Data: []byte("data"), Snap: []byte("snap")})
				}
			}
		}
	}
	return l
}

func TestP17_5Memory(t *testing.T) {
	told, stepped, refused := map[int]int{}, 0, 0
	for _, s := range replicas() {
		hold(t, "Check", raft.Check, s)
		hold(t, "Restart", raft.Restart, s)
		for _, e := range raftEvents() {
			hold(t, "Step", raft.Step, s, e)
			// Counted behind hold: a call that changes what it is given might leave nothing for it to see.
			_, msgs, err := raft.Step(s, e)
			if err == api.OK {
				stepped++
			} else {
				refused++
			}
			for _, m := range msgs {
				told[m.Kind]++
			}
		}
	}
	for _, n := range []int{-1, 0, 1, 3, 9, 10, math.MinInt, math.MaxInt} {
		for _, id := range []int{-1, 0, 1, 2, 8, 9, math.MinInt, math.MaxInt} {
			for _, draws := range [][]int{nil, {}, {1}, {1, 2, 3}, make([]int, 4096), make([]int, 4097)} {
				hold(t, "New", raft.New, id, n, draws)
			}
		}
	}
	if stepped < 800 || refused < 800 {
		t.Errorf("only %d steps were made and %d refused", stepped, refused)
	}
	for kind := 1; kind <= 5; kind++ {
		if told[kind] < 8 {
			t.Errorf("of kind %d only %d messages were told", kind, told[kind])
		}
	}
}

// TestP17_5Apart: two messages of one step that tell the same share nothing, nor does what a replica keeps.
func TestP17_5Apart(t *testing.T) {
	l := raft.State{ID: 1, N: 9, Vote: vote.State{Term: 5, Has: true, For: 1}, Role: 2, HasLeader: true, Leader: 1, Elapsed: 2, Commit: 5,
		Log: raftlog.Log{Base: 5, BaseTerm: 2, Entries: logEntries(2, 3, 5, 5)}, Snap: []byte("image"), Match: make([]int, 9)}
	for _, next := range []int{1, 5, 6, 7, 8, 9, 10} {
		l.Next = nil
		for range l.N {
			l.Next = append(l.Next, next)
		}
		hold(t, "Step", raft.Step, l, raft.Event{Kind: 1})
		_, told, err := raft.Step(l, raft.Event{Kind: 1})
		if len(told) != 8 || err != api.OK {
			t.Errorf("only %d messages were told: %d", len(told), err)
		}
	}
}
