package raft

import (
	"bytes"

	"transept/api"
	"transept/raftlog"
	"transept/vote"
)

// Kinds of messages; 0 is none.
const (
	_ = iota
	askVote
	answerVote
	bringEntries
	answerEntries
	bringSnapshot
)

// byMessage answers what each kind of message does to a replica that is in its term.
func byMessage() [bringSnapshot + 1]func(*step, Msg) {
	return [...]func(*step, Msg){
		askVote:       (*step).decide,
		answerVote:    (*step).count,
		bringEntries:  (*step).accept,
		answerEntries: (*step).note,
		bringSnapshot: (*step).restore,
	}
}

// hear takes a message of another replica.
func (p *step) hear(e Event) {
	m := e.Msg
	fromOther := within(0, p.N-1, m.From) && m.From != p.ID
	refuseIf(!within(askVote, bringSnapshot, m.Kind) || !fromOther || m.To != p.ID, api.ErrArg)
	refuseIf(!within(1, api.MaxTerm, m.Term), api.ErrArg)
	p.turn(m.Term)
	if m.Term < p.Vote.Term {
		p.answerElder(m)
		return
	}
	byMessage()[m.Kind](p, m)
}

// turn goes to a term that is above its own, as a follower of nobody yet.
func (p *step) turn(term int) {
	behind, up, _ := vote.Turn(p.Vote, term)
	if up {
		p.Vote = behind
		p.become(follower, false, 0)
	}
}

// answerElder tells one that asks or leads in a term that is over of the term that is now.
func (p *step) answerElder(m Msg) {
	switch m.Kind {
	case askVote:
		p.tell(Msg{Kind: answerVote, To: m.From})
	case bringEntries, bringSnapshot:
		p.tell(Msg{Kind: answerEntries, To: m.From})
	}
}

// decide answers one that asks for a vote.
func (p *step) decide(m Msg) {
	last, lastTerm := p.last()
	ask := vote.Ask{Term: m.Term, From: m.From, Last: m.Last, LastTerm: m.LastTerm}
	behind, given, _ := vote.Decide(p.Vote, last, lastTerm, ask)
	p.Vote = behind
	if given {
		p.Elapsed = 0
	}
	p.tell(Msg{Kind: answerVote, To: m.From, OK: given})
}

// count takes a vote, if it still stands.
func (p *step) count(m Msg) {
	if p.Role == candidate && m.OK {
		p.winsBy(m.From)
	}
}

// heed follows one that leads in its term.
func (p *step) heed(m Msg) {
	refuseIf(p.Role == leader, api.ErrState)
	p.become(follower, true, m.From)
	p.Elapsed = 0
}

// accept joins a leader's entries to the log, or answers from where on it needs them.
func (p *step) accept(m Msg) {
	p.heed(m)
	log, last, err := raftlog.Accept(p.Log, m.Prev, m.PrevTerm, m.Entries)
	if err == api.ErrGap || err == api.ErrTerm && p.differsAt(m.Prev, m.PrevTerm) {
		own, _ := p.last()
		p.tell(Msg{Kind: answerEntries, To: m.From, Match: max(min(m.Prev-1, own), p.Log.Base)})
		return
	}
	refuseIf(err != api.OK, err)
	refuseIf(p.loses(log), api.ErrState)
	p.Log = log
	_, term := p.last()
	refuseIf(term > p.Vote.Term, api.ErrTerm)
	p.Commit = max(p.Commit, min(m.Commit, last))
	p.tell(Msg{Kind: answerEntries, To: m.From, OK: true, Match: last})
}

// differsAt tells whether the log has an entry of that number, but of another term.
func (p *step) differsAt(index, term int) bool {
	own, err := raftlog.Term(p.Log, index)
	return err == api.OK && own != term
}

// loses tells whether a log that is to follow has lost an entry that is agreed upon. Where one was cut off, one of
// another term stands.
func (p *step) loses(log raftlog.Log) bool {
	for i, e := range p.Log.Entries[:p.Commit-p.Log.Base] {
		if log.Entries[i].Term != e.Term {
			return true
		}
	}
	return false
}

// restore takes a leader's snapshot, if it has more than is agreed upon here.
func (p *step) restore(m Msg) {
	p.heed(m)
	refuseIf(!within(1, api.MaxIndex, m.Prev) || !within(1, m.Term, m.PrevTerm), api.ErrRange)
	refuseIf(len(m.Snap) > api.MaxPayload, api.ErrLong)
	if m.Prev > p.Commit {
		p.Log = p.logBehind(m.Prev, m.PrevTerm)
		p.Snap = bytes.Clone(m.Snap)
		p.Commit = m.Prev
	}
	p.tell(Msg{Kind: answerEntries, To: m.From, OK: true, Match: m.Prev})
}

// logBehind answers what is left of the log behind a snapshot that ends with (index, term): nothing, if the log does
// not go on from there.
func (p *step) logBehind(index, term int) raftlog.Log {
	log, err := raftlog.Compact(p.Log, index)
	if err != api.OK || p.differsAt(index, term) {
		return raftlog.Log{Base: index, BaseTerm: term}
	}
	return log
}

// note takes an answer to what a leader brought: how far the other one's log is like its own.
func (p *step) note(m Msg) {
	if p.Role != leader {
		return
	}
	last, _ := p.last()
	refuseIf(!within(0, last, m.Match), api.ErrRange)
	if m.OK {
		p.Match[m.From] = max(p.Match[m.From], m.Match)
		p.Next[m.From] = p.Match[m.From] + 1
		p.settle()
		return
	}
	p.Next[m.From] = max(min(p.Next[m.From]-1, m.Match+1), p.Match[m.From]+1)
	p.tellOne(m.From)
}
