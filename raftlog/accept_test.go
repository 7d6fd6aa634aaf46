package raftlog_test

import (
	"math"
	"slices"
	"testing"

	"transept/api"
	"transept/raftlog"
)

// accept is Accept by another hand: on a log that may be, number by number.
func accept(l raftlog.Log, prev, prevTerm int, entries []api.Entry) (raftlog.Log, int, api.Errno) {
	if prev < 0 || prev > mostIndex {
		return raftlog.Log{}, 0, api.ErrRange
	}
	for prev < l.Base {
		if len(entries) == 0 {
			return l, prev, api.OK
		}
		prev, entries = prev+1, entries[1:]
		prevTerm = l.BaseTerm
	}
	term, there := numbered(l)[prev]
	if !there {
		return raftlog.Log{}, 0, api.ErrGap
	}
	if term != prevTerm {
		return raftlog.Log{}, 0, api.ErrTerm
	}
	grown := raftlog.Log{Base: l.Base, BaseTerm: l.BaseTerm, Entries: slices.Clone(l.Entries)}
	for _, e := range entries {
		prev++
		if own, there := numbered(grown)[prev]; there && own == e.Term {
			continue
		}
		grown.Entries = slices.Clone(grown.Entries[:prev-1-grown.Base])
		if err := appendFault(grown, e); err != api.OK {
			return l, 0, err
		}
		grown.Entries = append(grown.Entries, e)
	}
	return grown, prev, api.OK
}

func wantAccept(t *testing.T, l raftlog.Log, prev, prevTerm int, entries []api.Entry, want raftlog.Log, wantLast int, wantErr api.Errno) {
	t.Helper()
	got, last, err := raftlog.Accept(l, prev, prevTerm, entries)
	if !sameLog(got, want) || last != wantLast || err != wantErr {
		t.Errorf("Accept(%s, %d, %d, %s) = %s, %d, %d, want %s, %d, %d", short(l), prev, prevTerm, short(entries), short(got), last, err, short(want), wantLast, wantErr)
	}
}

// wantRefused wants an error of prev: nothing stands beside it.
func wantRefused(t *testing.T, l raftlog.Log, prev, prevTerm int, entries []api.Entry, want api.Errno) {
	t.Helper()
	wantAccept(t, l, prev, prevTerm, entries, raftlog.Log{}, 0, want)
}

// wantAsModel wants what the other hand answers.
func wantAsModel(t *testing.T, l raftlog.Log, prev, prevTerm int, entries []api.Entry) api.Errno {
	t.Helper()
	want, last, err := accept(l, prev, prevTerm, entries)
	wantAccept(t, l, prev, prevTerm, entries, want, last, err)
	return err
}

// joinedOf answers l's first n entries with others behind them.
func joinedOf(l raftlog.Log, n int, others []api.Entry) raftlog.Log {
	l.Entries = slices.Concat(l.Entries[:n], others)
	return l
}

// termsOf answers the terms of l's entries.
func termsOf(l raftlog.Log) []int {
	var terms []int
	for _, e := range l.Entries {
		terms = append(terms, e.Term)
	}
	return terms
}

// outOfRange are numbers that no entry and no Base has.
func outOfRange() []int {
	return []int{-1, -2, -mostIndex, math.MinInt, math.MinInt + 1, mostIndex + 1, mostIndex + 2, 1 << 41, math.MaxInt - 1, math.MaxInt}
}

func TestP15_2Joins(t *testing.T) {
	l := logOf(0, 0, 1, 1, 2)
	for _, c := range []struct {
		prev, prevTerm int
		terms          []int
		kept           int // how many of l's entries stay
		from           int // which of the new ones is the first that is joined
	}{
		{0, 0, nil, 3, 0},
		{1, 1, nil, 3, 0},
		{2, 1, nil, 3, 0},
		{3, 2, nil, 3, 0},
		{3, 2, []int{2}, 3, 0},
		{3, 2, []int{2, 3, 3, 9}, 3, 0},
		{3, 2, []int{mostTerm}, 3, 0},
		{2, 1, []int{3}, 2, 0},
		{2, 1, []int{1}, 2, 0},
		{2, 1, []int{2}, 3, 1},
		{2, 1, []int{2, 2}, 3, 1},
		{2, 1, []int{2, 7, 7}, 3, 1},
		{1, 1, []int{2}, 1, 0},
		{1, 1, []int{1}, 3, 1},
		{1, 1, []int{1, 1}, 2, 1},
		{1, 1, []int{1, 2}, 3, 2},
		{1, 1, []int{1, 2, 2}, 3, 2},
		{1, 1, []int{1, 3, 3}, 2, 1},
		{1, 1, []int{2, 2}, 1, 0},
		{0, 0, []int{1}, 3, 1},
		{0, 0, []int{2}, 0, 0},
		{0, 0, []int{4, 4, 4, 4}, 0, 0},
		{0, 0, []int{1, 1}, 3, 2},
		{0, 0, []int{1, 2}, 1, 1},
		{0, 0, []int{1, 1, 2}, 3, 3},
		{0, 0, []int{1, 1, 1}, 2, 2},
		{0, 0, []int{1, 1, 2, 2}, 3, 3},
		{0, 0, []int{1, 2, 2, 2}, 1, 1},
	} {
		entries := entriesOf("new", c.terms...)
		wantAccept(t, l, c.prev, c.prevTerm, entries, joinedOf(l, c.kept, entries[c.from:]), c.prev+len(c.terms), api.OK)
		// The same behind a snapshot, at a place far away.
		far := logOf(mostIndex-9, 1, 1, 1, 2)
		if c.prev == 0 {
			c.prevTerm = 1
		}
		wantAccept(t, far, mostIndex-9+c.prev, c.prevTerm, entries, joinedOf(far, c.kept, entries[c.from:]), mostIndex-9+c.prev+len(c.terms), api.OK)
	}
}

func TestP15_2Prev(t *testing.T) {
	l := logOf(5, 2, 3, 3, 4)
	entries := entriesOf("new", 6)
	for _, es := range [][]api.Entry{nil, {}, entries} {
		for _, prev := range outOfRange() {
			for _, prevTerm := range []int{0, 2, 4, -1} {
				wantRefused(t, l, prev, prevTerm, es, api.ErrRange)
				wantRefused(t, raftlog.Log{}, prev, prevTerm, es, api.ErrRange)
			}
		}
		for _, prev := range []int{9, 10, 11, 1 << 32, mostIndex - 1, mostIndex} {
			for _, prevTerm := range []int{0, 2, 4, -1} {
				wantRefused(t, l, prev, prevTerm, es, api.ErrGap)
			}
		}
		for _, prev := range []int{1, 2, mostIndex} {
			wantRefused(t, raftlog.Log{}, prev, 0, es, api.ErrGap)
		}
		for i, own := range []int{2, 3, 3, 4} { // at Base, among the entries, at the last
			for _, prevTerm := range oddInts() {
				if prevTerm != own {
					wantRefused(t, l, 5+i, prevTerm, es, api.ErrTerm)
				} else if len(es) == 0 {
					wantAccept(t, l, 5+i, prevTerm, es, l, 5+i, api.OK)
				} else {
					wantAccept(t, l, 5+i, prevTerm, es, joinedOf(l, i, es), 6+i, api.OK)
				}
			}
		}
		for _, prevTerm := range []int{1, 2, -1, mostTerm + 1} {
			wantRefused(t, raftlog.Log{}, 0, prevTerm, es, api.ErrTerm)
		}
	}
	wantAccept(t, raftlog.Log{}, 0, 0, nil, raftlog.Log{}, 0, api.OK)
	wantAccept(t, raftlog.Log{}, 0, 0, entries, raftlog.Log{Entries: entries}, 1, api.OK)
	wantAccept(t, logOf(7, 0), 7, 0, entries, raftlog.Log{Base: 7, Entries: entries}, 8, api.OK)
	wantRefused(t, logOf(7, 0), 7, 1, entries, api.ErrTerm)
}

// TestP15_2AheadOfBase: entries at Base or ahead of it are passed over, whatever they and prev's term are.
func TestP15_2AheadOfBase(t *testing.T) {
	l := logOf(5, 2, 3, 3, 4)
	passed := [][]int{terms(2, 9), terms(0, 9), terms(-1, 9), terms(mostTerm+1, 9), {9, 8, 7, 6, 5, 4, 3, 2, 1}}
	for prev := range 5 {
		for _, prevTerm := range oddInts() {
			for _, before := range passed {
				// All of them are ahead of Base, or the last one is at it.
				for n := range 5 - prev + 1 {
					entries := entriesOf("old", before[:n]...)
					wantAccept(t, l, prev, prevTerm, entries, l, prev+n, api.OK)
				}
				entries := entriesOf("old", before[:5-prev]...)
				for i := range entries {
					entries[i].Data = octets(mostData + 1)
				}
				for _, behind := range []struct {
					terms      []int
					kept, from int
				}{{[]int{3}, 3, 1}, {[]int{2}, 0, 0}, {[]int{4}, 0, 0}, {[]int{3, 3, 4}, 3, 3}, {[]int{3, 3, 4, 4}, 3, 3}, {[]int{3, 4}, 1, 1}} {
					others := entriesOf("new", behind.terms...)
					want := joinedOf(l, behind.kept, others[behind.from:])
					wantAccept(t, l, prev, prevTerm, slices.Concat(entries, others), want, 5+len(others), api.OK)
				}
				wantAccept(t, l, prev, prevTerm, slices.Concat(entries, entriesOf("new", 1)), l, 0, api.ErrTerm)
			}
		}
	}
	// A snapshot that ends in no term that is known.
	wantAccept(t, logOf(5, 0), 3, 9, entriesOf("new", 9, 9, 9), joinedOf(logOf(5, 0), 0, entriesOf("new", 9, 9, 9)[2:]), 6, api.OK)
	wantAccept(t, logOf(mostIndex, 4), mostIndex-2, 1, entriesOf("new", 9, 9), logOf(mostIndex, 4), mostIndex, api.OK)
	wantAccept(t, logOf(mostIndex, 4), mostIndex-2, 1, entriesOf("new", 9), logOf(mostIndex, 4), mostIndex-1, api.OK)
	wantAccept(t, logOf(mostIndex, 4), mostIndex-2, 1, entriesOf("new", 9, 9, 9), logOf(mostIndex, 4), 0, api.ErrFull)
	wantAccept(t, logOf(mostIndex, 4), 0, 1, slices.Repeat(entriesOf("new", 9), 70000), logOf(mostIndex, 4), 70000, api.OK)
	wantAccept(t, logOf(70000, 4), 0, 1, slices.Repeat(entriesOf("new", 9), 70001), raftlog.Log{Base: 70000, BaseTerm: 4, Entries: entriesOf("new", 9)}, 70001, api.OK)
}

// TestP15_2Differs: a leader's entries that differ from one's own from each place on, or nowhere.
func TestP15_2Differs(t *testing.T) {
	own := logOf(5, 2, 3, 3, 4, 6, 6, 6, 9, 9)
	for first := range 9 {
		for total := first; total <= 12; total++ {
			others := entriesOf("new", slices.Concat(termsOf(own)[:first], terms(10, total-first))...)
			want := own
			if first < total {
				want = joinedOf(own, first, others[first:])
			}
			for prev, prevTerm := range append([]int{2}, termsOf(own)[:first]...) {
				wantAccept(t, own, 5+prev, prevTerm, others[prev:], want, 5+total, api.OK)
			}
			wantAccept(t, own, 2, 0, append(entriesOf("old", 1, 1, 1), others...), want, 5+total, api.OK)
		}
	}
}

// TestP15_2ThereAlready: of entries that are there already only the terms are looked at.
func TestP15_2ThereAlready(t *testing.T) {
	l := logOf(5, 2, 3, 3, 4)
	there := entriesOf("new", 3, 3, 4)
	for i := range there {
		there[i].Data = octets(mostData + 1 + i)
	}
	for n := range 4 {
		wantAccept(t, l, 5, 2, there[:n], l, 5+n, api.OK)
	}
	wantAccept(t, l, 5, 2, append(slices.Clone(there), entriesOf("new", 4)...), joinedOf(l, 3, entriesOf("new", 4)), 9, api.OK)
	full := logOf(9, 1, terms(1, mostEntries)...)
	wantAccept(t, full, 9, 1, entriesOf("new", terms(1, mostEntries)...), full, 9+mostEntries, api.OK)
	wantAccept(t, full, 9, 1, entriesOf("new", terms(1, 3)...), full, 12, api.OK)
	wantAccept(t, full, 8+mostEntries, 1, entriesOf("new", 1), full, 9+mostEntries, api.OK)
	wantAccept(t, full, 9+mostEntries, 1, nil, full, 9+mostEntries, api.OK)
	end := logOf(mostIndex-2, 1, 2, 3)
	wantAccept(t, end, mostIndex-2, 1, entriesOf("new", 2, 3), end, mostIndex, api.OK)
	wantAccept(t, end, mostIndex, 3, nil, end, mostIndex, api.OK)
}

// TestP15_2Refused: Append's error of the first entry that has one; l is answered beside it, as it was.
func TestP15_2Refused(t *testing.T) {
	own := logOf(5, 2, 3, 3, 4, 6)
	faults := []struct {
		change func(e *api.Entry)
		want   api.Errno
	}{
		{func(e *api.Entry) { e.Term = 0 }, api.ErrTerm},
		{func(e *api.Entry) { e.Term = -1 }, api.ErrTerm},
		{func(e *api.Entry) { e.Term = math.MinInt }, api.ErrTerm},
		{func(e *api.Entry) { e.Term = 1 }, api.ErrTerm}, // below Base's own term
		{func(e *api.Entry) { e.Term = mostTerm + 1 }, api.ErrTerm},
		{func(e *api.Entry) { e.Term = math.MaxInt }, api.ErrTerm},
		{func(e *api.Entry) { e.Data = octets(mostData + 1) }, api.ErrLong},
		{func(e *api.Entry) { e.Term, e.Data = 0, octets(mostData+1) }, api.ErrTerm},
	}
	prevTerms := append([]int{2}, termsOf(own)...)
	for prev, prevTerm := range prevTerms {
		for at := range 5 {
			for _, f := range faults {
				entries := entriesOf("new", terms(7, 5)...)
				f.change(&entries[at])
				wantAccept(t, own, 5+prev, prevTerm, entries, own, 0, f.want)
				for _, g := range faults { // the first one counts
					if at < 4 {
						twice := slices.Clone(entries)
						g.change(&twice[4])
						wantAccept(t, own, 5+prev, prevTerm, twice, own, 0, f.want)
					}
				}
				// Behind some that are there already.
				behind := append(entriesOf("new", prevTerms[1:1+prev]...), entries...)
				wantAccept(t, own, 5, 2, behind, own, 0, f.want)
				wantAccept(t, own, 4, 1, append(entriesOf("old", 9), behind...), own, 0, f.want)
			}
		}
	}
	wantAccept(t, own, 9, 6, entriesOf("new", 5), own, 0, api.ErrTerm)
	wantAccept(t, own, 9, 6, entriesOf("new", 7, 6), own, 0, api.ErrTerm)
	wantAccept(t, own, 7, 3, entriesOf("new", 2), own, 0, api.ErrTerm)
	wantAccept(t, raftlog.Log{}, 0, 0, entriesOf("new", 0), raftlog.Log{}, 0, api.ErrTerm)
}

// TestP15_2Full: where entries are cut off, others find room; those beyond it are refused.
func TestP15_2Full(t *testing.T) {
	for _, full := range []raftlog.Log{
		logOf(0, 0, terms(1, mostEntries)...),
		logOf(9, 1, terms(1, mostEntries)...),
		logOf(mostIndex-mostEntries, 1, terms(1, mostEntries)...),
		logOf(mostIndex-7, 1, terms(1, 7)...),
	} {
		n := len(full.Entries)
		for _, kept := range []int{0, 1, n / 2, n - 1, n} {
			prev, prevTerm := full.Base+kept, 1
			if prev == 0 {
				prevTerm = 0
			}
			for _, term := range []int{2, 5} {
				entries := entriesOf("new", terms(term, n-kept)...)
				wantAccept(t, full, prev, prevTerm, entries, joinedOf(full, kept, entries), full.Base+n, api.OK)
				more := append(slices.Clone(entries), entriesOf("new", 6)...)
				wantAccept(t, full, prev, prevTerm, more, full, 0, api.ErrFull)
				wantAccept(t, full, prev, prevTerm, append(slices.Clone(more), api.Entry{}), full, 0, api.ErrFull)
				last := len(more) - 1
				more[last].Data = octets(mostData + 1)
				wantAccept(t, full, prev, prevTerm, more, full, 0, api.ErrLong)
				more[last].Term = 1
				if kept < n {
					wantAccept(t, full, prev, prevTerm, more, full, 0, api.ErrTerm)
				}
				more[last].Term = 0
				wantAccept(t, full, prev, prevTerm, more, full, 0, api.ErrTerm)
			}
		}
		prevTerm, _ := raftlog.Term(full, full.Base)
		behind := append(entriesOf("new", terms(1, n)...), entriesOf("new", 1)...)
		wantAccept(t, full, full.Base, prevTerm, behind, full, 0, api.ErrFull)
	}
	wantAccept(t, raftlog.Log{}, 0, 0, entriesOf("new", terms(1, mostEntries+1)...), raftlog.Log{}, 0, api.ErrFull)
	many := entriesOf("new", terms(1, mostEntries)...)
	wantAccept(t, raftlog.Log{}, 0, 0, many, raftlog.Log{Entries: many}, mostEntries, api.OK)
}

// TestP15_2Order: two faults at once, in the chapter's order.
func TestP15_2Order(t *testing.T) {
	l := logOf(5, 2, 3, 3, 4)
	bad := []api.Entry{{Term: 0}}
	wrong := logOf(5, 2, 1)
	wantRefused(t, wrong, -1, 0, bad, api.ErrState)
	wantRefused(t, wrong, 9, 0, bad, api.ErrState)
	wantRefused(t, wrong, 5, 9, bad, api.ErrState)
	wantRefused(t, wrong, 5, 2, bad, api.ErrState)
	wantRefused(t, wrong, 1, 2, nil, api.ErrState)
	for _, prev := range outOfRange() {
		wantRefused(t, l, prev, 4, bad, api.ErrRange)
		wantRefused(t, l, prev, 9, bad, api.ErrRange)
	}
	for _, prev := range []int{9, mostIndex} {
		wantRefused(t, l, prev, 9, bad, api.ErrGap)
		wantRefused(t, l, prev, 4, bad, api.ErrGap)
	}
	wantRefused(t, l, 8, 9, bad, api.ErrTerm)
	wantRefused(t, l, 8, 9, []api.Entry{{Term: 4, Data: octets(mostData + 1)}}, api.ErrTerm)
	wantRefused(t, l, 5, 3, entriesOf("new", 9), api.ErrTerm)
	full := logOf(0, 0, terms(1, mostEntries)...)
	wantRefused(t, full, mostEntries, 2, entriesOf("new", 2), api.ErrTerm)
	wantRefused(t, full, mostEntries+1, 1, entriesOf("new", 2), api.ErrGap)
	wantRefused(t, logOf(mostIndex, 3), mostIndex, 2, entriesOf("new", 3), api.ErrTerm)
	wantRefused(t, logOf(mostIndex, 3), mostIndex+1, 3, entriesOf("new", 3), api.ErrRange)
}

// smallLogs are all logs of at most three entries, with Base up to 2 and terms up to 3, that may be.
func smallLogs() []raftlog.Log {
	var l []raftlog.Log
	for base := range 3 {
		for baseTerm := range 3 {
			smallLists(3, 1, 3, func(terms []int) {
				if one := logOf(base, baseTerm, terms...); mayBe(one) {
					l = append(l, one)
				}
			})
		}
	}
	return l
}

// TestP15_2OfAll: all small logs and entries, against the other hand, which follows the chapter number by number; and
// what follows from the chapter of each answer.
func TestP15_2OfAll(t *testing.T) {
	told := map[api.Errno]int{}
	var lists [][]api.Entry
	smallLists(3, 0, 4, func(terms []int) { lists = append(lists, entriesOf("new", terms...)) })
	for _, l := range smallLogs() {
		for prev := -1; prev <= 6; prev++ {
			for prevTerm := range 4 {
				for _, entries := range lists {
					told[wantAsModel(t, l, prev, prevTerm, entries)]++
				}
			}
		}
		if t.Failed() {
			t.FailNow()
		}
	}
	for _, err := range []api.Errno{api.OK, api.ErrRange, api.ErrGap, api.ErrTerm} {
		if told[err] < 1000 {
			t.Errorf("error %d was told %d times", err, told[err])
		}
	}
}
