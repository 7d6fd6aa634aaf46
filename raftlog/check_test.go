package raftlog_test

import (
	"bytes"
	"fmt"
	"maps"
	"math"
	"slices"
	"testing"

	"transept/api"
	"transept/raftlog"
)

const (
	mostIndex   = 1 << 40
	mostTerm    = 1 << 40
	mostEntries = 4096
	mostData    = 4096
)

// oddInts are numbers about the bounds of a log, and at the ends of int.
func oddInts() []int {
	return []int{math.MinInt, math.MinInt + 1, -mostIndex - 1, -mostIndex, -1 << 32, -4097, -4096, -3, -2, -1, 0, 1, 2, 3, 4, 5, 6, 7, 8, 9, 10, 11, 12, 255, 256, 257,
		4095, 4096, 4097, 4098, 1 << 31, 1 << 32, 1<<32 + 3, mostIndex - 2, mostIndex - 1, mostIndex, mostIndex + 1, mostIndex + 2, 1 << 41, math.MaxInt - 1, math.MaxInt}
}

// entriesOf answers entries of these terms; their Data tells who made them, and their place.
func entriesOf(who string, terms ...int) []api.Entry {
	var l []api.Entry
	for i, term := range terms {
		l = append(l, api.Entry{Term: term, Data: fmt.Appendf(nil, "%s%d", who, i)})
	}
	return l
}

// logOf answers a log with entries of these terms.
func logOf(base, baseTerm int, terms ...int) raftlog.Log {
	return raftlog.Log{Base: base, BaseTerm: baseTerm, Entries: entriesOf("own", terms...)}
}

// terms answers n times the same term.
func terms(term, n int) []int {
	return slices.Repeat([]int{term}, n)
}

// octets answers so many of them.
func octets(n int) []byte {
	return bytes.Repeat([]byte{'o'}, n)
}

// with answers l with the entry at that place changed.
func with(l raftlog.Log, at int, change func(e *api.Entry)) raftlog.Log {
	l.Entries = slices.Clone(l.Entries)
	change(&l.Entries[at])
	return l
}

// short answers what a test tells of a log, or of entries.
func short(v any) string {
	s := fmt.Sprintf("%+v", v)
	return s[:min(len(s), 300)]
}

func sameEntries(a, b []api.Entry) bool {
	return slices.EqualFunc(a, b, func(a, b api.Entry) bool { return a.Term == b.Term && bytes.Equal(a.Data, b.Data) })
}

func sameLog(a, b raftlog.Log) bool {
	return a.Base == b.Base && a.BaseTerm == b.BaseTerm && sameEntries(a.Entries, b.Entries)
}

// mayBe says by another hand which logs may be.
func mayBe(l raftlog.Log) bool {
	in := func(n, from, to int) bool { return from <= n && n <= to }
	if !in(l.Base, 0, mostIndex) || !in(l.BaseTerm, 0, mostTerm) || l.Base == 0 && l.BaseTerm != 0 {
		return false
	}
	if len(l.Entries) > mostEntries || !in(l.Base+len(l.Entries), 0, mostIndex) {
		return false
	}
	all := []int{l.BaseTerm}
	for _, e := range l.Entries {
		if !in(e.Term, 1, mostTerm) || len(e.Data) > mostData {
			return false
		}
		all = append(all, e.Term)
	}
	return slices.IsSorted(all)
}

// goodLogs are logs that may be, each at a bound or within.
func goodLogs() []raftlog.Log {
	return []raftlog.Log{
		{},
		{Entries: []api.Entry{}},
		{Base: 1},
		{Base: 1, BaseTerm: 1},
		{Base: 1, BaseTerm: mostTerm},
		{Base: mostIndex},
		{Base: mostIndex, BaseTerm: mostTerm},
		{Base: 7, BaseTerm: 3, Entries: []api.Entry{{Term: 3}, {Term: 3, Data: []byte{}}, {Term: 4, Data: []byte{0}}}},
		logOf(0, 0, 1),
		logOf(0, 0, mostTerm),
		logOf(0, 0, 1, 1, 2, 2, 5, mostTerm, mostTerm),
		logOf(3, 0, 1),
		logOf(3, 2, 2, 3),
		logOf(3, mostTerm, mostTerm, mostTerm),
		logOf(mostIndex-1, 1, 1),
		logOf(mostIndex-3, 7, 7, 8, 9),
		logOf(0, 0, terms(1, mostEntries-1)...),
		logOf(0, 0, terms(1, mostEntries)...),
		logOf(4096, 4096, terms(4097, mostEntries)...),
		logOf(mostIndex-mostEntries, 5, terms(6, mostEntries)...),
		with(logOf(0, 0, 1, 1, 2), 0, func(e *api.Entry) { e.Data = octets(mostData) }),
		with(logOf(0, 0, 1, 1, 2), 1, func(e *api.Entry) { e.Data = octets(mostData) }),
		with(logOf(0, 0, 1, 1, 2), 2, func(e *api.Entry) { e.Data = octets(mostData) }),
	}
}

// wrongLogs are logs that may not be, each by one word of the chapter alone.
func wrongLogs() []raftlog.Log {
	var l []raftlog.Log
	for _, base := range []int{-1, -2, -mostIndex, math.MinInt, math.MinInt + 1, mostIndex + 1, mostIndex + 2, 1 << 41, math.MaxInt - 1, math.MaxInt} {
		l = append(l, logOf(base, 0), logOf(base, 1), logOf(base, 1, 1))
	}
	for _, term := range []int{-1, -2, math.MinInt, mostTerm + 1, 1 << 41, math.MaxInt} {
		l = append(l, logOf(5, term), logOf(mostIndex, term))
	}
	for _, term := range []int{-1, 0, math.MinInt} {
		l = append(l, logOf(5, 0, term), logOf(0, 0, term, 1, 2), logOf(0, 0, term, term))
	}
	for _, term := range []int{1, 2, mostTerm} {
		l = append(l, logOf(0, term), logOf(0, term, mostTerm))
	}
	l = append(l, logOf(5, 3, 2), logOf(5, 3, 1, 3, 3), logOf(5, mostTerm, mostTerm-1)) // below BaseTerm
	l = append(l, logOf(0, 0, terms(1, mostEntries+1)...), logOf(9, 1, terms(1, mostEntries+1)...), logOf(0, 0, terms(1, 2*mostEntries)...))
	l = append(l, logOf(mostIndex, 0, 1), logOf(mostIndex, 2, 2), logOf(mostIndex-2, 2, 2, 2, 2), logOf(mostIndex-mostEntries+1, 1, terms(1, mostEntries)...))
	l = append(l, logOf(4, 2, 1, 5, 7), logOf(4, 2, 3, 2, 7), logOf(4, 2, 3, 5, 4), logOf(4, 2, 3, 5, 2), logOf(0, 0, 2, 1), logOf(0, 0, 2, 2, 1, 2), logOf(0, 0, mostTerm, mostTerm-1)) // falling
	for _, term := range []int{mostTerm + 1, mostTerm + 2, math.MaxInt} {
		l = append(l, logOf(0, 0, term), logOf(4, 2, term, term, term), logOf(4, 2, 3, term), logOf(4, mostTerm, mostTerm, mostTerm, term))
	}
	for _, n := range []int{mostData + 1, mostData + 2, 2 * mostData, 1 << 16} {
		for at := range 3 {
			l = append(l, with(logOf(4, 2, 3, 5, 7), at, func(e *api.Entry) { e.Data = octets(n) }))
		}
	}
	return l
}

func TestExample(t *testing.T) {
	l := logOf(0, 0, 1, 1, 2)
	got, last, err := raftlog.Accept(l, 2, 1, entriesOf("new", 3))
	want := raftlog.Log{Entries: append(entriesOf("own", 1, 1), entriesOf("new", 3)...)}
	if !sameLog(got, want) || last != 3 || err != api.OK {
		t.Errorf("Accept = %s, %d, %d, want %s, 3, 0", short(got), last, err, short(want))
	}
}

func wantCheck(t *testing.T, l raftlog.Log, want api.Errno) {
	t.Helper()
	if got := raftlog.Check(l); got != want {
		t.Errorf("Check(%s) = %d, want %d", short(l), got, want)
	}
}

func TestP15_1Check(t *testing.T) {
	for _, l := range goodLogs() {
		wantCheck(t, l, api.OK)
		if !mayBe(l) {
			t.Errorf("the test's own words refuse %s", short(l))
		}
	}
	for _, l := range wrongLogs() {
		wantCheck(t, l, api.ErrState)
		if mayBe(l) {
			t.Errorf("the test's own words let %s be", short(l))
		}
	}
}

// smallLists calls each with every list of at most so many numbers, all from low to high.
func smallLists(most, low, high int, each func(l []int)) {
	each(nil)
	if most == 0 {
		return
	}
	for n := low; n <= high; n++ {
		smallLists(most-1, low, high, func(l []int) { each(append([]int{n}, l...)) })
	}
}

// TestP15_1CheckOfAll: all small logs, at both ends of the numbers, against the chapter's words.
func TestP15_1CheckOfAll(t *testing.T) {
	may, mayNot := 0, 0
	try := func(l raftlog.Log) {
		want := api.ErrState
		if mayBe(l) {
			want = api.OK
			may++
		} else {
			mayNot++
		}
		wantCheck(t, l, want)
	}
	for _, base := range []int{-1, 0, 1, 2, mostIndex - 4, mostIndex - 3, mostIndex - 2, mostIndex - 1, mostIndex, mostIndex + 1} {
		for _, baseTerm := range []int{-1, 0, 1, 2, 3} {
			smallLists(4, -1, 3, func(l []int) { try(logOf(base, baseTerm, l...)) })
		}
		for _, baseTerm := range []int{0, mostTerm - 1, mostTerm, mostTerm + 1} {
			smallLists(3, mostTerm-1, mostTerm+1, func(l []int) { try(logOf(base, baseTerm, l...)) })
		}
	}
	if may < 200 || mayNot < 2000 {
		t.Errorf("of the logs %d may be and %d may not", may, mayNot)
	}
}

// TestP15_1CheckGoesAhead: with a log that may not be, every call tells that alone, whatever else is wrong.
func TestP15_1CheckGoesAhead(t *testing.T) {
	entries := [][]api.Entry{nil, entriesOf("new", 9), {{}}, {{Term: mostTerm + 1, Data: octets(mostData + 1)}}}
	want := func(what string, err api.Errno, nothing bool) {
		t.Helper()
		if err != api.ErrState || !nothing {
			t.Errorf("%s of a log that may not be: %d, nothing beside it: %v", what, err, nothing)
		}
	}
	for _, l := range wrongLogs() {
		n, term, err := raftlog.Last(l)
		want("Last", err, n == 0 && term == 0)
		for _, index := range []int{math.MinInt, -1, 0, 1, l.Base, l.Base + 1, l.Base + len(l.Entries), l.Base + len(l.Entries) + 1, math.MaxInt} {
			term, err := raftlog.Term(l, index)
			want("Term", err, term == 0)
			for _, n := range []int{0, 1, -1} {
				got, err := raftlog.From(l, index, n)
				want("From", err, len(got) == 0)
			}
			got, err := raftlog.Compact(l, index)
			want("Compact", err, sameLog(got, raftlog.Log{}))
			for _, e := range entries {
				got, n, err := raftlog.Accept(l, index, l.BaseTerm, e)
				want("Accept", err, sameLog(got, raftlog.Log{}) && n == 0)
			}
		}
		for _, e := range entries[1:] {
			got, err := raftlog.Append(l, e[0])
			want("Append", err, sameLog(got, raftlog.Log{}))
		}
	}
}

// numbered is a log's terms by their numbers, by another hand.
func numbered(l raftlog.Log) map[int]int {
	m := map[int]int{l.Base: l.BaseTerm}
	for i, e := range l.Entries {
		m[l.Base+1+i] = e.Term
	}
	return m
}

func TestP15_1Last(t *testing.T) {
	for _, c := range []struct {
		l          raftlog.Log
		last, term int
	}{
		{logOf(0, 0), 0, 0},
		{logOf(9, 0), 9, 0},
		{logOf(9, 4), 9, 4},
		{logOf(mostIndex, mostTerm), mostIndex, mostTerm},
		{logOf(0, 0, 3), 1, 3},
		{logOf(0, 0, 1, 1, 2), 3, 2},
		{logOf(9, 4, 4), 10, 4},
		{logOf(9, 4, 5, 6, 8), 12, 8},
		{logOf(mostIndex-2, 4, 5, mostTerm), mostIndex, mostTerm},
		{logOf(5, 1, terms(3, mostEntries)...), 5 + mostEntries, 3},
	} {
		if last, term, err := raftlog.Last(c.l); last != c.last || term != c.term || err != api.OK {
			t.Errorf("Last(%s) = %d, %d, %d, want %d, %d, 0", short(c.l), last, term, err, c.last, c.term)
		}
	}
}

func TestP15_1Term(t *testing.T) {
	for _, l := range append(goodLogs(), logOf(9, 4, 5, 6, 8), logOf(2, 0, 3, 3, 4)) {
		m := numbered(l)
		last := l.Base + len(l.Entries)
		for _, index := range slices.Concat(oddInts(), []int{l.Base - 2, l.Base - 1, l.Base, l.Base + 1, l.Base + 2, last - 1, last, last + 1, last + 2}) {
			want, there := m[index]
			wantErr := api.OK
			if !there {
				wantErr = api.ErrNone
			}
			if got, err := raftlog.Term(l, index); got != want || err != wantErr {
				t.Errorf("Term(%s, %d) = %d, %d, want %d, %d", short(l), index, got, err, want, wantErr)
			}
		}
	}
	l := logOf(9, 4, 5, 6, 8)
	for i, want := range []int{4, 5, 6, 8} {
		if got, err := raftlog.Term(l, 9+i); got != want || err != api.OK {
			t.Errorf("Term of %d = %d, %d, want %d, 0", 9+i, got, err, want)
		}
	}
}

// appendFault is Append's error by another hand.
func appendFault(l raftlog.Log, e api.Entry) api.Errno {
	m := numbered(l)
	last := slices.Max(slices.Collect(maps.Keys(m)))
	if e.Term < m[last] || e.Term < 1 || e.Term > mostTerm {
		return api.ErrTerm
	}
	if len(e.Data) > mostData {
		return api.ErrLong
	}
	if len(l.Entries) == mostEntries || last == mostIndex {
		return api.ErrFull
	}
	return api.OK
}

func wantAppend(t *testing.T, l raftlog.Log, e api.Entry, wantErr api.Errno) {
	t.Helper()
	want := raftlog.Log{}
	if wantErr == api.OK {
		want = raftlog.Log{Base: l.Base, BaseTerm: l.BaseTerm, Entries: append(slices.Clone(l.Entries), e)}
	}
	if got, err := raftlog.Append(l, e); !sameLog(got, want) || err != wantErr {
		t.Errorf("Append(%s, %s) = %s, %d, want %s, %d", short(l), short(e), short(got), err, short(want), wantErr)
	}
}

func TestP15_1Append(t *testing.T) {
	for _, c := range []struct {
		l    raftlog.Log
		term int
		want api.Errno
	}{
		{logOf(0, 0), 1, api.OK},
		{logOf(0, 0), mostTerm, api.OK},
		{logOf(0, 0), 0, api.ErrTerm},
		{logOf(0, 0), -1, api.ErrTerm},
		{logOf(0, 0), math.MinInt, api.ErrTerm},
		{logOf(0, 0), mostTerm + 1, api.ErrTerm},
		{logOf(0, 0), math.MaxInt, api.ErrTerm},
		{logOf(5, 0), 0, api.ErrTerm},
		{logOf(5, 0), 1, api.OK},
		{logOf(5, 3), 2, api.ErrTerm},
		{logOf(5, 3), 3, api.OK},
		{logOf(5, 3), 4, api.OK},
		{logOf(5, 3, 4, 6), 3, api.ErrTerm},
		{logOf(5, 3, 4, 6), 5, api.ErrTerm},
		{logOf(5, 3, 4, 6), 6, api.OK},
		{logOf(5, 3, 4, 6), 7, api.OK},
		{logOf(5, 3, 4, 6), 0, api.ErrTerm},
		{logOf(5, mostTerm), mostTerm - 1, api.ErrTerm},
		{logOf(5, mostTerm), mostTerm, api.OK},
		{logOf(5, mostTerm), mostTerm + 1, api.ErrTerm},
		{logOf(0, 0, terms(1, mostEntries-1)...), 1, api.OK},
		{logOf(0, 0, terms(1, mostEntries)...), 1, api.ErrFull},
		{logOf(77, 1, terms(1, mostEntries)...), 2, api.ErrFull},
		{logOf(mostIndex-1, 2), 2, api.OK},
		{logOf(mostIndex, 2), 2, api.ErrFull},
		{logOf(mostIndex-3, 2, 2, 2), 2, api.OK},
		{logOf(mostIndex-2, 2, 2, 2), 2, api.ErrFull},
		{logOf(mostIndex-mostEntries, 2, terms(2, mostEntries-1)...), 2, api.OK},
		{logOf(mostIndex-mostEntries, 2, terms(2, mostEntries)...), 2, api.ErrFull},
	} {
		wantAppend(t, c.l, api.Entry{Term: c.term, Data: []byte("e")}, c.want)
	}
	for n, want := range map[int]api.Errno{0: api.OK, 1: api.OK, mostData - 1: api.OK, mostData: api.OK, mostData + 1: api.ErrLong, 2 * mostData: api.ErrLong, 1 << 20: api.ErrLong} {
		wantAppend(t, logOf(0, 0, 1), api.Entry{Term: 1, Data: octets(n)}, want)
		wantAppend(t, logOf(0, 0), api.Entry{Term: 1, Data: octets(n)}, want)
	}
	wantAppend(t, logOf(0, 0, 1), api.Entry{Term: 1}, api.OK)
}

// TestP15_1AppendOrder: every set of Append's faults at once, and every odd term, against the chapter's order.
func TestP15_1AppendOrder(t *testing.T) {
	for _, l := range goodLogs() {
		for _, n := range []int{0, mostData, mostData + 1} {
			for _, term := range oddInts() {
				e := api.Entry{Term: term, Data: octets(n)}
				wantAppend(t, l, e, appendFault(l, e))
			}
		}
	}
	full := logOf(0, 0, terms(5, mostEntries)...)
	for _, full := range []raftlog.Log{full, logOf(mostIndex, 5), logOf(mostIndex-mostEntries, 5, terms(5, mostEntries)...)} {
		for _, term := range []int{4, 0, -1, mostTerm + 1} {
			wantAppend(t, full, api.Entry{Term: term, Data: octets(mostData + 1)}, api.ErrTerm)
			wantAppend(t, full, api.Entry{Term: term}, api.ErrTerm)
		}
		wantAppend(t, full, api.Entry{Term: 5, Data: octets(mostData + 1)}, api.ErrLong)
		wantAppend(t, full, api.Entry{Term: 5}, api.ErrFull)
	}
}
