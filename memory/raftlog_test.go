package memory_test

import (
	"math"
	"testing"

	"transept/api"
	"transept/raftlog"
)

// logEntries are entries of these terms, each with Data.
func logEntries(terms ...int) []api.Entry {
	var l []api.Entry
	for i, term := range terms {
		l = append(l, api.Entry{Term: term, Data: []byte("entry")[:1+i%5]})
	}
	return l
}

// raftLogs are logs with and without entries and Data, some of which may not be.
func raftLogs() []raftlog.Log {
	return []raftlog.Log{
		{},
		{Entries: []api.Entry{}},
		{Base: 5, BaseTerm: 2},
		{Entries: logEntries(1, 1, 2)},
		{Base: 5, BaseTerm: 2, Entries: logEntries(2, 3, 3, 4)},
		{Base: 5, Entries: []api.Entry{{Term: 2}, {Term: 3, Data: []byte{}}, {Term: 3, Data: make([]byte, 4096)}}},
		{Base: api.MaxIndex - 2, BaseTerm: 1, Entries: logEntries(2, 2)},
		{Base: 5, BaseTerm: 2, Entries: logEntries(1)},
		{Base: math.MaxInt, Entries: logEntries(1)},
		{Entries: []api.Entry{{Term: 1, Data: make([]byte, 4097)}}},
	}
}

// accepted is Accept with its error ahead: that of an entry stands beside a log.
func accepted(l raftlog.Log, prev, prevTerm int, entries []api.Entry) (api.Errno, raftlog.Log, int) {
	l, last, err := raftlog.Accept(l, prev, prevTerm, entries)
	return err, l, last
}

func TestP15_7Memory(t *testing.T) {
	news := [][]api.Entry{nil, {}, logEntries(4), logEntries(9), logEntries(2, 3, 3, 4), logEntries(2, 9, 9), logEntries(1, 1, 2, 2, 5), logEntries(2, 2, 9, 1), {{Term: 9}, {Term: 9, Data: make([]byte, 4097)}}, {{}}}
	appended, joined, refused := 0, 0, 0
	for _, l := range raftLogs() {
		hold(t, "Check", raftlog.Check, l)
		hold(t, "Last", raftlog.Last, l)
		for _, entries := range news {
			for _, e := range entries {
				hold(t, "Append", raftlog.Append, l, e)
				if _, err := raftlog.Append(l, e); err == api.OK {
					appended++
				}
			}
		}
		for _, index := range []int{-1, 0, 1, 3, 4, 5, 6, 7, 9, 10, l.Base, l.Base + 2, math.MinInt, math.MaxInt} {
			hold(t, "Term", raftlog.Term, l, index)
			hold(t, "Compact", raftlog.Compact, l, index)
			for _, n := range []int{0, 1, 3, math.MaxInt, -1} {
				hold(t, "From", raftlog.From, l, index, n)
			}
			own, _ := raftlog.Term(l, index)
			for _, entries := range news {
				for _, prevTerm := range []int{own, own + 1} {
					hold(t, "Accept", accepted, l, index, prevTerm, entries)
				}
				// Counted behind hold: a call that changes what it is given might leave nothing for it to see.
				if _, last, err := raftlog.Accept(l, index, own, entries); err == api.OK && last > 0 {
					joined++
				} else if err != api.OK {
					refused++
				}
			}
		}
	}
	if appended < 50 || joined < 150 || refused < 150 {
		t.Errorf("only %d entries were appended, %d lists joined and %d refused", appended, joined, refused)
	}
}

// TestP15_7Refused: beside an error nothing is told, but beside an entry's own, which leaves the log as it was.
func TestP15_7Refused(t *testing.T) {
	l := raftlog.Log{Base: 5, BaseTerm: 2, Entries: logEntries(2, 3, 3, 4)}
	for _, prev := range []int{-1, math.MinInt, api.MaxIndex + 1, 10, 11} {
		hold(t, "Accept", raftlog.Accept, l, prev, 4, logEntries(9))
	}
	for prev := 5; prev <= 9; prev++ {
		hold(t, "Accept", raftlog.Accept, l, prev, 7, logEntries(9))
	}
	for _, l := range raftLogs()[7:] {
		hold(t, "Accept", raftlog.Accept, l, 5, 2, logEntries(9))
	}
}
