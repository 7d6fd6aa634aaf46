package raft

import (
	"bytes"
	"slices"

	"transept/api"
	"transept/quorum"
	"transept/raftlog"
	"transept/vote"
)

// Kinds of events; 0 is none.
const (
	_ = iota
	tick
	message
	proposal
	snapshot
)

const (
	leaderTicks = 3 // behind as many a leader tells all others that it leads
	mostTold    = 8 // entries of one message
)

// Step answers s behind e, and the messages that it tells then.
func Step(s State, e Event) (State, []Msg, api.Errno) {
	if err := Check(s); err != api.OK {
		return State{}, nil, err
	}
	if !within(tick, snapshot, e.Kind) {
		return State{}, nil, api.ErrKind
	}
	p := step{State: copyOf(s)}
	if err := p.take(e); err != api.OK {
		return State{}, nil, err
	}
	return p.State, p.told, api.OK
}

// step is a replica on its way from one state to the next, in memory of its own, and the messages that it has told so
// far.
type step struct {
	State
	told []Msg
}

// refusal is what a step panics with: nothing of it counts then, however far it has come.
type refusal struct{ err api.Errno }

// refuseIf ends the step with err if something is wrong.
func refuseIf(wrong bool, err api.Errno) {
	if wrong {
		panic(refusal{err})
	}
}

// take does what e asks for, or answers why it may not be done.
func (p *step) take(e Event) (err api.Errno) {
	defer func() {
		if why := recover(); why != nil {
			// What is no refusal was not the step's to tell: it goes on as a panic.
			err = why.(refusal).err
		}
	}()
	byEvent()[e.Kind](p, e)
	return api.OK
}

// byEvent answers what each kind of event does.
func byEvent() [snapshot + 1]func(*step, Event) {
	return [...]func(*step, Event){
		tick:     (*step).tick,
		message:  (*step).hear,
		proposal: (*step).propose,
		snapshot: (*step).compact,
	}
}

// tick lets time pass: a leader tells all now and then that it leads, and another one that hears of none stands.
func (p *step) tick(Event) {
	p.Elapsed++
	switch {
	case p.Role == leader && p.Elapsed >= leaderTicks:
		p.Elapsed = 0
		p.tellAll()
	case p.Role != leader && p.Elapsed >= p.Timeout:
		p.stand()
	}
}

// propose appends Data to a leader's log.
func (p *step) propose(e Event) {
	refuseIf(p.Role != leader, api.ErrState)
	refuseIf(len(e.Data) > api.MaxPayload, api.ErrLong)
	p.add(e.Data)
}

// compact leaves the log up to Index to a snapshot.
func (p *step) compact(e Event) {
	refuseIf(!within(p.Log.Base, p.Commit, e.Index), api.ErrNone)
	refuseIf(len(e.Snap) > api.MaxPayload, api.ErrLong)
	p.Log, _ = raftlog.Compact(p.Log, e.Index)
	p.Snap = bytes.Clone(e.Snap)
}

// become takes a role, with a leader or without one. No list of the role ahead of it is left.
func (p *step) become(role int, hasLeader bool, leader int) {
	p.Role, p.HasLeader, p.Leader = role, hasLeader, leader
	p.Votes, p.Next, p.Match = nil, nil, nil
}

// stand makes it a candidate of a new term, which may win at once if it is alone.
func (p *step) stand() {
	refuseIf(p.Vote.Term == api.MaxTerm, api.ErrTerm)
	p.Vote = vote.State{Term: p.Vote.Term + 1, Has: true, For: p.ID}
	p.become(candidate, false, 0)
	p.Votes = make([]bool, p.N)
	p.Elapsed = 0
	p.drawTimeout()
	if p.winsBy(p.ID) {
		return
	}
	last, lastTerm := p.last()
	for to := range p.others {
		p.tell(Msg{Kind: askVote, To: to, Last: last, LastTerm: lastTerm})
	}
}

// winsBy gives a candidate the vote of that replica, and tells whether it has won by it.
func (p *step) winsBy(from int) bool {
	p.Votes[from] = true
	wins, _ := quorum.Wins(p.Votes)
	if wins {
		p.lead()
	}
	return wins
}

// lead makes it the leader. An entry of its own term comes first, for by no other one can it settle what is agreed.
func (p *step) lead() {
	last, _ := p.last()
	p.become(leader, true, p.ID)
	p.Next = slices.Repeat([]int{last + 1}, p.N)
	p.Match = make([]int, p.N)
	p.Elapsed = 0
	p.add(nil)
	p.tellAll()
}

// add appends an entry of a leader's term to its log, and settles how far that is agreed.
func (p *step) add(data []byte) {
	longer, err := raftlog.Append(p.Log, api.Entry{Term: p.Vote.Term, Data: data})
	refuseIf(err != api.OK, err)
	p.Log = longer
	p.Match[p.ID], _ = p.last()
	p.settle()
}

// settle finds how far a leader's log is agreed upon by now. Entries of elder terms count with one of its own alone.
func (p *step) settle() {
	own := slices.IndexFunc(p.Log.Entries, func(e api.Entry) bool { return e.Term == p.Vote.Term })
	if own < 0 {
		own = len(p.Log.Entries)
	}
	commit, err := quorum.Commit(p.Match, p.Commit, p.Log.Base+1+own)
	if err == api.OK {
		last, _ := p.last()
		p.Commit = min(commit, last)
	}
}

// tellAll tells each other replica what a leader has for it.
func (p *step) tellAll() {
	for to := range p.others {
		p.tellOne(to)
	}
}

// tellOne tells another replica the entries that come next for it, or the snapshot that they are left to.
func (p *step) tellOne(to int) {
	base := p.Log.Base
	if p.Next[to] <= base {
		p.tell(Msg{Kind: bringSnapshot, To: to, Prev: base, PrevTerm: p.Log.BaseTerm, Snap: bytes.Clone(p.Snap)})
		p.Next[to] = base + 1
		return
	}
	last, _ := p.last()
	next := min(p.Next[to], last+1)
	term, _ := raftlog.Term(p.Log, next-1)
	entries, _ := raftlog.From(p.Log, next, mostTold)
	p.tell(Msg{Kind: bringEntries, To: to, Prev: next - 1, PrevTerm: term, Entries: entries, Commit: p.Commit})
}

// tell puts a message of its own and of its term behind the others.
func (p *step) tell(m Msg) {
	m.From, m.Term = p.ID, p.Vote.Term
	p.told = append(p.told, m)
}

// others yields the numbers of all other replicas, rising.
func (p *step) others(yield func(id int) bool) {
	for id := range p.N {
		if id != p.ID && !yield(id) {
			return
		}
	}
}

// last answers the number and term of the log's last entry.
func (p *step) last() (int, int) {
	last, term, _ := raftlog.Last(p.Log)
	return last, term
}
