package raft_test

import (
	"slices"

	"transept/api"
	"transept/raft"
	"transept/raftlog"
	"transept/vote"
)

// in tells whether n is from low to high.
func in(low, n, high int) bool { return low <= n && n <= high }

// allIn tells it of all.
func allIn(low int, l []int, high int) bool {
	return !slices.ContainsFunc(l, func(n int) bool { return !in(low, n, high) })
}

// mayBe tells by another hand whether a state may be.
func mayBe(s raft.State) bool {
	if !in(1, s.N, 9) || !in(0, s.ID, s.N-1) || !in(0, s.Role, 2) {
		return false
	}
	if !in(0, s.Vote.Term, mostTerm) || s.Vote.Has && !in(0, s.Vote.For, 8) || !s.Vote.Has && s.Vote.For != 0 {
		return false
	}
	if s.HasLeader && !in(0, s.Leader, s.N-1) || !s.HasLeader && s.Leader != 0 {
		return false
	}
	if !logMayBe(s.Log) || lastTerm(s.Log) > s.Vote.Term || !in(s.Log.Base, s.Commit, last(s.Log)) {
		return false
	}
	if len(s.Snap) > mostOctets || len(s.Draws) > mostDraws || !in(0, s.Elapsed, mostTicks) || !in(0, s.Timeout, mostTicks) {
		return false
	}
	lengths := [][3]int{{0, 0, 0}, {s.N, 0, 0}, {0, s.N, s.N}}
	return [3]int{len(s.Votes), len(s.Next), len(s.Match)} == lengths[s.Role] && allIn(1, s.Next, mostIndex+1) && allIn(0, s.Match, mostIndex)
}

func logMayBe(l raftlog.Log) bool {
	if !in(0, l.Base, mostIndex) || !in(0, l.BaseTerm, mostTerm) || l.Base == 0 && l.BaseTerm != 0 || len(l.Entries) > mostEntries {
		return false
	}
	for i, e := range l.Entries {
		if !in(1, e.Term, mostTerm) || e.Term < termAt(l, l.Base+i) || len(e.Data) > mostOctets {
			return false
		}
	}
	return last(l) <= mostIndex
}

func last(l raftlog.Log) int { return l.Base + len(l.Entries) }

// termAt answers the term of the entry of that number, and -1 of none.
func termAt(l raftlog.Log, n int) int {
	if n == l.Base {
		return l.BaseTerm
	}
	if n < l.Base || n > last(l) {
		return -1
	}
	return l.Entries[n-l.Base-1].Term
}

func lastTerm(l raftlog.Log) int { return termAt(l, last(l)) }

// nextTimeout answers by another hand the next timeout, and what is left of draws.
func nextTimeout(id int, draws []int) (int, []int) {
	if len(draws) == 0 {
		return id + 10, nil
	}
	digit := draws[0] % 10
	for digit < 0 {
		digit += 10
	}
	return digit + 10, draws[1:]
}

// machine is a replica by another hand, and what it tells; err ends it.
type machine struct {
	s   raft.State
	out []raft.Msg
	err api.Errno
}

// model is Step by another hand, in the order of the chapter's words.
func model(s raft.State, e raft.Event) (raft.State, []raft.Msg, api.Errno) {
	if !mayBe(s) {
		return raft.State{}, nil, api.ErrState
	}
	m := machine{s: cloned(s)}
	switch e.Kind {
	case tick:
		m.tick()
	case message:
		m.message(e.Msg)
	case proposal:
		m.proposal(e.Data)
	case snapshot:
		m.snapshot(e.Index, e.Snap)
	default:
		m.err = api.ErrKind
	}
	if m.err != api.OK {
		return raft.State{}, nil, m.err
	}
	return m.s, m.out, api.OK
}

func (m *machine) tell(to int, msg raft.Msg) {
	msg.From, msg.To, msg.Term = m.s.ID, to, m.s.Vote.Term
	m.out = append(m.out, msg)
}

func (m *machine) tick() {
	m.s.Elapsed++
	if m.s.Role == leader {
		if m.s.Elapsed >= 3 {
			m.s.Elapsed = 0
			m.tellAll()
		}
		return
	}
	if m.s.Elapsed < m.s.Timeout {
		return
	}
	if m.s.Vote.Term == mostTerm {
		m.err = api.ErrTerm
		return
	}
	m.s.Vote = vote.State{Term: m.s.Vote.Term + 1, Has: true, For: m.s.ID}
	m.s.Role, m.s.HasLeader, m.s.Leader, m.s.Elapsed = candidate, false, 0, 0
	m.s.Votes = make([]bool, m.s.N)
	m.s.Votes[m.s.ID] = true
	m.s.Timeout, m.s.Draws = nextTimeout(m.s.ID, m.s.Draws)
	if m.s.N == 1 {
		m.win()
		return
	}
	for to := 0; to < m.s.N; to++ {
		if to != m.s.ID {
			m.tell(to, raft.Msg{Kind: askVote, Last: last(m.s.Log), LastTerm: lastTerm(m.s.Log)})
		}
	}
}

func (m *machine) win() {
	m.s.Role, m.s.HasLeader, m.s.Leader, m.s.Votes = leader, true, m.s.ID, nil
	m.s.Next, m.s.Match = numbers(m.s.N, last(m.s.Log)+1), numbers(m.s.N, 0)
	if m.append(nil); m.err != api.OK {
		return
	}
	m.s.Elapsed = 0
	m.settle()
	m.tellAll()
}

// append appends an entry of its term, and tells of it in its own Match.
func (m *machine) append(data []byte) {
	switch {
	case m.s.Vote.Term < 1:
		m.err = api.ErrTerm
	case len(m.s.Log.Entries) == mostEntries || last(m.s.Log) == mostIndex:
		m.err = api.ErrFull
	default:
		m.s.Log.Entries = append(slices.Clone(m.s.Log.Entries), api.Entry{Term: m.s.Vote.Term, Data: data})
		m.s.Match[m.s.ID] = last(m.s.Log)
	}
}

func (m *machine) tellAll() {
	for to := 0; to < m.s.N; to++ {
		if to != m.s.ID {
			m.tellOne(to)
		}
	}
}

func (m *machine) tellOne(to int) {
	l := m.s.Log
	if m.s.Next[to] <= l.Base {
		m.s.Next[to] = l.Base + 1
		m.tell(to, raft.Msg{Kind: bringImage, Prev: l.Base, PrevTerm: l.BaseTerm, Snap: m.s.Snap})
		return
	}
	prev := m.s.Next[to] - 1
	if prev > last(l) {
		prev = last(l)
	}
	var next []api.Entry
	for n := prev + 1; n <= last(l) && n <= prev+8; n++ {
		next = append(next, l.Entries[n-l.Base-1])
	}
	m.tell(to, raft.Msg{Kind: bring, Prev: prev, PrevTerm: termAt(l, prev), Entries: next, Commit: m.s.Commit})
}

// settle takes the greatest number up to which a majority has all, if it is of the leader's own term.
func (m *machine) settle() {
	agreed := 0
	for _, n := range m.s.Match {
		have := 0
		for _, other := range m.s.Match {
			if other >= n {
				have++
			}
		}
		if 2*have > m.s.N && n > agreed {
			agreed = n
		}
	}
	first := last(m.s.Log) + 1
	for n := last(m.s.Log); n > m.s.Log.Base; n-- {
		if termAt(m.s.Log, n) == m.s.Vote.Term {
			first = n
		}
	}
	if first > mostIndex || agreed < first {
		return
	}
	m.s.Commit = max(m.s.Commit, min(agreed, last(m.s.Log)))
}

func (m *machine) message(msg raft.Msg) {
	s := &m.s
	if !in(1, msg.Kind, 5) || !in(0, msg.From, s.N-1) || !in(0, msg.To, s.N-1) || msg.To != s.ID || msg.From == s.ID || !in(1, msg.Term, mostTerm) {
		m.err = api.ErrArg
		return
	}
	if msg.Term > s.Vote.Term {
		s.Vote = vote.State{Term: msg.Term}
		s.Role, s.HasLeader, s.Leader, s.Votes, s.Next, s.Match = follower, false, 0, nil, nil, nil
	}
	if msg.Term < s.Vote.Term {
		switch msg.Kind {
		case askVote:
			m.tell(msg.From, raft.Msg{Kind: giveVote})
		case bring, bringImage:
			m.tell(msg.From, raft.Msg{Kind: answer})
		}
		return
	}
	switch msg.Kind {
	case askVote:
		m.asked(msg)
	case giveVote:
		m.given(msg)
	case bring, bringImage:
		if s.Role == leader {
			m.err = api.ErrState
			return
		}
		s.Role, s.HasLeader, s.Leader, s.Votes, s.Elapsed = follower, true, msg.From, nil, 0
		if msg.Kind == bring {
			m.brought(msg)
		} else {
			m.image(msg)
		}
	case answer:
		m.answered(msg)
	}
}

func (m *machine) asked(msg raft.Msg) {
	s := &m.s
	newer := msg.LastTerm > lastTerm(s.Log) || msg.LastTerm == lastTerm(s.Log) && msg.Last >= last(s.Log)
	given := newer && (!s.Vote.Has || s.Vote.For == msg.From)
	if given {
		s.Vote.Has, s.Vote.For = true, msg.From
		s.Elapsed = 0
	}
	m.tell(msg.From, raft.Msg{Kind: giveVote, OK: given})
}

func (m *machine) given(msg raft.Msg) {
	if m.s.Role != candidate || !msg.OK {
		return
	}
	m.s.Votes[msg.From] = true
	votes := 0
	for _, yes := range m.s.Votes {
		if yes {
			votes++
		}
	}
	if 2*votes > m.s.N {
		m.win()
	}
}

func (m *machine) brought(msg raft.Msg) {
	s := &m.s
	l := s.Log
	if !in(0, msg.Prev, mostIndex) {
		m.err = api.ErrRange
		return
	}
	if own := termAt(l, msg.Prev); msg.Prev >= l.Base && own != msg.PrevTerm || msg.Prev > last(l) {
		match := max(min(msg.Prev-1, last(l)), l.Base)
		if msg.Prev == 0 {
			match = 0
		}
		m.tell(msg.From, raft.Msg{Kind: answer, Match: match})
		return
	}
	end := msg.Prev + len(msg.Entries)
	lost := false
	for i, e := range msg.Entries {
		n := msg.Prev + 1 + i
		if n <= l.Base || termAt(l, n) == e.Term && e.Term > 0 {
			continue
		}
		if n <= last(l) {
			lost = lost || n <= s.Commit
			l.Entries = l.Entries[:n-l.Base-1]
		}
		switch {
		case e.Term < 1 || e.Term < lastTerm(l) || e.Term > mostTerm:
			m.err = api.ErrTerm
		case len(e.Data) > mostOctets:
			m.err = api.ErrLong
		case len(l.Entries) == mostEntries || last(l) == mostIndex:
			m.err = api.ErrFull
		}
		if m.err != api.OK {
			return
		}
		l.Entries = append(slices.Clone(l.Entries), e)
	}
	switch {
	case lost:
		m.err = api.ErrState
	case lastTerm(l) > s.Vote.Term:
		m.err = api.ErrTerm
	default:
		s.Log = l
		s.Commit = max(s.Commit, min(msg.Commit, end))
		m.tell(msg.From, raft.Msg{Kind: answer, OK: true, Match: end})
	}
}

func (m *machine) image(msg raft.Msg) {
	s := &m.s
	if !in(1, msg.Prev, mostIndex) || !in(1, msg.PrevTerm, msg.Term) {
		m.err = api.ErrRange
		return
	}
	if len(msg.Snap) > mostOctets {
		m.err = api.ErrLong
		return
	}
	if msg.Prev > s.Commit {
		var behind []api.Entry
		if termAt(s.Log, msg.Prev) == msg.PrevTerm {
			behind = s.Log.Entries[msg.Prev-s.Log.Base:]
		}
		s.Log = raftlog.Log{Base: msg.Prev, BaseTerm: msg.PrevTerm, Entries: behind}
		s.Snap, s.Commit = msg.Snap, msg.Prev
	}
	m.tell(msg.From, raft.Msg{Kind: answer, OK: true, Match: msg.Prev})
}

func (m *machine) answered(msg raft.Msg) {
	s := &m.s
	if s.Role != leader {
		return
	}
	if !in(0, msg.Match, last(s.Log)) {
		m.err = api.ErrRange
		return
	}
	if msg.OK {
		if s.Match[msg.From] < msg.Match {
			s.Match[msg.From] = msg.Match
		}
		s.Next[msg.From] = s.Match[msg.From] + 1
		m.settle()
		return
	}
	next := min(s.Next[msg.From]-1, msg.Match+1)
	if next < 1 {
		next = 1
	}
	if next <= s.Match[msg.From] {
		next = s.Match[msg.From] + 1
	}
	s.Next[msg.From] = next
	m.tellOne(msg.From)
}

func (m *machine) proposal(data []byte) {
	if m.s.Role != leader {
		m.err = api.ErrState
		return
	}
	if len(data) > mostOctets {
		m.err = api.ErrLong
		return
	}
	if m.append(data); m.err == api.OK {
		m.settle()
	}
}

func (m *machine) snapshot(index int, image []byte) {
	s := &m.s
	if !in(s.Log.Base, index, s.Commit) {
		m.err = api.ErrNone
		return
	}
	if len(image) > mostOctets {
		m.err = api.ErrLong
		return
	}
	s.Log = raftlog.Log{Base: index, BaseTerm: termAt(s.Log, index), Entries: s.Log.Entries[index-s.Log.Base:]}
	s.Snap = image
}
