package raftlog_test

import (
	"fmt"
	"sync"
	"testing"

	"transept/api"
	"transept/raftlog"
)

// dice answers numbers below n, the same ones for the same seed.
func dice(seed uint32) func(n int) int {
	return func(n int) int {
		seed = seed*1664525 + 1013904223
		return int(uint64(seed) * uint64(n) >> 32)
	}
}

// message is what a leader tells a follower.
type message struct {
	prev, prevTerm int
	entries        []api.Entry
}

// sent answers some of l's entries from anywhere on, with the number and the term of the one ahead.
func sent(t *testing.T, l raftlog.Log, roll func(n int) int) message {
	t.Helper()
	m := message{prev: l.Base + roll(len(l.Entries)+1)}
	var err [2]api.Errno
	m.prevTerm, err[0] = raftlog.Term(l, m.prev)
	m.entries, err[1] = raftlog.From(l, m.prev+1, roll(9))
	if err[0] != api.OK || err[1] != api.OK {
		t.Fatalf("of %s nothing is told from %d on: %v", short(l), m.prev, err)
	}
	return m
}

// entryAt answers l's entry of that number.
func entryAt(l raftlog.Log, n int) api.Entry {
	return l.Entries[n-l.Base-1]
}

// matching holds two logs to P15.4, and answers at how many numbers they have one term, and at how many others.
func matching(t *testing.T, a, b raftlog.Log) (int, int) {
	t.Helper()
	same, other := 0, 0
	for n := max(a.Base, b.Base) + 1; n <= min(a.Base+len(a.Entries), b.Base+len(b.Entries)); n++ {
		x, y := entryAt(a, n), entryAt(b, n)
		if x.Term != y.Term {
			other++
			continue
		}
		same++
		if !sameEntries([]api.Entry{x}, []api.Entry{y}) {
			t.Fatalf("at %d: %s and %s, of the same term", n, short(x), short(y))
		}
		if other > 0 {
			t.Fatalf("%s and %s: one term at %d, but not ahead of it", short(a), short(b), n)
		}
	}
	return same, other
}

// accepted answers l behind a message, and whether it was taken; and holds it to P15.5 and P15.6.
func accepted(t *testing.T, l raftlog.Log, m message) (raftlog.Log, bool) {
	t.Helper()
	got, last, err := raftlog.Accept(l, m.prev, m.prevTerm, m.entries)
	if err != api.OK {
		if err != api.ErrGap && err != api.ErrTerm {
			t.Fatalf("Accept(%s, %+v) is refused: %d", short(l), m, err)
		}
		return l, false
	}
	if !mayBe(got) || raftlog.Check(got) != api.OK {
		t.Fatalf("Accept(%s, %+v) = %s, which may not be", short(l), m, short(got))
	}
	wantAccept(t, got, m.prev, m.prevTerm, m.entries, got, last, api.OK)
	return got, true
}

// TestP15_4OneLeader: followers take a leader's growing log in pieces, in any order, late and twice, and compact.
func TestP15_4OneLeader(t *testing.T) {
	roll := dice(154)
	same, taken, refused := 0, 0, 0
	for range 60 {
		var leader raftlog.Log
		followers, late := make([]raftlog.Log, 4), []message{{}}
		term := 1
		for step := range 200 {
			if roll(3) == 0 {
				term += roll(3) / 2
				leader, _ = raftlog.Append(leader, api.Entry{Term: term, Data: fmt.Appendf(nil, "%d", step)})
			}
			m := sent(t, leader, roll)
			if roll(3) == 0 {
				m = late[roll(len(late))]
			}
			late = append(late, m)
			at := roll(len(followers))
			f, ok := accepted(t, followers[at], m)
			if ok {
				taken++
			} else {
				refused++
			}
			if roll(20) == 0 {
				f, _ = raftlog.Compact(f, f.Base+roll(len(f.Entries)+1))
			}
			followers[at] = f
			for _, other := range append(followers, leader) {
				n, differ := matching(t, f, other)
				same += n
				if differ > 0 {
					t.Fatalf("%s and %s differ, of one leader", short(f), short(other))
				}
			}
		}
	}
	if same < 10000 || taken < 5000 || refused < 500 {
		t.Errorf("%d entries were the same, %d messages taken and %d refused", same, taken, refused)
	}
}

// TestP15_4ManyLeaders: each term another log leads, with entries of its own; what it tells comes late and twice.
func TestP15_4ManyLeaders(t *testing.T) {
	roll := dice(1504)
	same, differ, taken := 0, 0, 0
	for range 60 {
		logs, late := make([]raftlog.Log, 5), []message{{}}
		for term := 1; term <= 12; term++ {
			leader := roll(len(logs))
			for step := range 12 {
				if roll(2) == 0 {
					logs[leader], _ = raftlog.Append(logs[leader], api.Entry{Term: term, Data: fmt.Appendf(nil, "%d-%d", term, step)})
				}
				m := sent(t, logs[leader], roll)
				late = append(late, m)
				if roll(5) == 0 {
					m = late[roll(len(late))]
				}
				at := roll(len(logs))
				if at == leader {
					continue
				}
				next, last, err := raftlog.Accept(logs[at], m.prev, m.prevTerm, m.entries)
				if err != api.OK {
					continue
				}
				wantAccept(t, next, m.prev, m.prevTerm, m.entries, next, last, api.OK)
				logs[at] = next
				taken++
			}
			for a := range logs {
				for b := range a {
					n, d := matching(t, logs[a], logs[b])
					same += n
					differ += d
				}
			}
		}
	}
	if same < 5000 || differ < 500 || taken < 2000 {
		t.Errorf("%d entries were the same, %d differed, %d messages were taken", same, differ, taken)
	}
}

// TestP15_4Data: a log whose entry differs by its Data alone is cut where the terms differ, and so agrees.
func TestP15_4Data(t *testing.T) {
	leader := raftlog.Log{Entries: entriesOf("lead", 1, 1, 3, 3)}
	elder := raftlog.Log{Entries: append(entriesOf("lead", 1, 1), entriesOf("elder", 2, 2, 2)...)}
	for prev := range 3 {
		prevTerm, _ := raftlog.Term(leader, prev)
		got, last, err := raftlog.Accept(elder, prev, prevTerm, leader.Entries[prev:])
		if !sameLog(got, leader) || last != 4 || err != api.OK {
			t.Errorf("Accept(%s, %d, ..) = %s, %d, %d, want the leader's", short(elder), prev, short(got), last, err)
		}
	}
	wantRefused(t, elder, 3, 3, leader.Entries[3:], api.ErrTerm)
}

// TestP15_5ThereChangesNothing: every piece of a log that it is told leaves it as it is, what is behind the piece too.
func TestP15_5ThereChangesNothing(t *testing.T) {
	for _, l := range append(smallLogs(), logOf(5, 2, 3, 3, 4, 6, 6, 6, 9, 9), logOf(mostIndex-3, 7, 7, 8, 9), logOf(mostIndex, 3), logOf(5, 0)) {
		for from := range len(l.Entries) + 1 {
			prevTerm := numbered(l)[l.Base+from]
			for to := from; to <= len(l.Entries); to++ {
				wantAccept(t, l, l.Base+from, prevTerm, l.Entries[from:to], l, l.Base+to, api.OK)
				if l.Base > 0 && from == 0 {
					wantAccept(t, l, l.Base-1, 99, append(entriesOf("old", 99), l.Entries[:to]...), l, l.Base+to, api.OK)
				}
			}
		}
	}
}

// TestP15_5Again: whatever was accepted, again it tells the same and changes nothing.
func TestP15_5Again(t *testing.T) {
	changed := 0
	for _, l := range smallLogs() {
		for prev := range 6 {
			for prevTerm := range 4 {
				smallLists(3, 1, 4, func(terms []int) {
					entries := entriesOf("new", terms...)
					got, last, err := raftlog.Accept(l, prev, prevTerm, entries)
					if err != api.OK {
						return
					}
					if !sameLog(got, l) {
						changed++
					}
					wantAccept(t, got, prev, prevTerm, entries, got, last, api.OK)
				})
			}
		}
	}
	if changed < 500 {
		t.Errorf("%d logs were changed", changed)
	}
}

// TestP15_6Follows: what Append, Accept and Compact answer may be, one behind the other.
func TestP15_6Follows(t *testing.T) {
	roll := dice(156)
	follows := func(what string, l, next raftlog.Log) {
		t.Helper()
		if !mayBe(next) || raftlog.Check(next) != api.OK {
			t.Fatalf("%s of %s = %s, which may not be", what, short(l), short(next))
		}
	}
	told := map[api.Errno]int{}
	for _, first := range []raftlog.Log{{}, logOf(5, 0), logOf(mostIndex-6, 3), logOf(mostIndex, 3), logOf(0, 0, terms(1, mostEntries-2)...), logOf(7, 1, mostTerm-1, mostTerm)} {
		l := first
		for range 400 {
			base, last := l.Base, l.Base+len(l.Entries)
			lastTerm := numbered(l)[last]
			next, err := raftlog.Append(l, api.Entry{Term: lastTerm + roll(4) - 1, Data: octets(roll(3) * 2049)})
			told[err]++
			follows("Append", l, next)
			if err == api.OK && roll(2) == 0 {
				l = next
			}
			var entries []api.Entry
			for i := range roll(5) {
				entries = append(entries, api.Entry{Term: max(lastTerm+roll(5)-2, 1), Data: octets(i)})
			}
			prev := base + roll(len(l.Entries)+3) - 1
			next, _, err = raftlog.Accept(l, prev, numbered(l)[prev], entries)
			told[err]++
			follows("Accept", l, next)
			if err == api.OK {
				l = next
			}
			if next, err = raftlog.Compact(l, l.Base+roll(len(l.Entries)+1)); err != api.OK {
				t.Fatalf("Compact of %s = %d", short(l), err)
			}
			follows("Compact", l, next)
			if roll(30) == 0 && next.Base < mostIndex-9 {
				l = next
			}
		}
	}
	for _, err := range []api.Errno{api.OK, api.ErrTerm, api.ErrLong, api.ErrFull, api.ErrGap} {
		if told[err] < 20 {
			t.Errorf("error %d was told %d times", err, told[err])
		}
	}
}

// TestSameAgain: the same arguments, the same answers (P3), from goroutines that hold the same log and entries.
func TestSameAgain(t *testing.T) {
	l, entries := logOf(5, 2, 3, 3, 4), entriesOf("new", 3, 5, 5)
	want := joinedOf(l, 1, entries[1:])
	var all sync.WaitGroup
	for range 8 {
		all.Go(func() {
			for range 100 {
				a, last, errA := raftlog.Accept(l, 5, 2, entries)
				b, errB := raftlog.Append(l, entries[1])
				c, errC := raftlog.Compact(l, 7)
				d, errD := raftlog.From(l, 7, 2)
				if !sameLog(a, want) || last != 8 || len(b.Entries) != 4 || c.Base != 7 || len(d) != 2 || errA != api.OK || errB != api.OK || errC != api.OK || errD != api.OK {
					t.Error("another answer:", a, last, errA, b, errB, c, errC, d, errD)
				}
			}
		})
	}
	all.Wait()
}
