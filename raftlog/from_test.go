package raftlog_test

import (
	"math"
	"slices"
	"testing"

	"transept/api"
	"transept/raftlog"
)

// about are numbers about l's Base and last entry, and the odd ones.
func about(l raftlog.Log) []int {
	last := l.Base + len(l.Entries)
	return slices.Concat(oddInts(), []int{l.Base - 2, l.Base - 1, l.Base, l.Base + 1, l.Base + 2, last - 1, last, last + 1, last + 2})
}

// someLogs are logs that may be, at all bounds.
func someLogs() []raftlog.Log {
	return append(goodLogs(), logOf(9, 4, 5, 6, 8), logOf(2, 0, 3, 3, 4), logOf(0, 0, 1, 1, 2))
}

func wantFrom(t *testing.T, l raftlog.Log, index, n int, want []api.Entry, wantErr api.Errno) {
	t.Helper()
	if got, err := raftlog.From(l, index, n); !sameEntries(got, want) || err != wantErr {
		t.Errorf("From(%s, %d, %d) = %s, %d, want %s, %d", short(l), index, n, short(got), err, short(want), wantErr)
	}
}

func TestP15_3From(t *testing.T) {
	l := logOf(5, 2, 3, 3, 4, 7)
	e := l.Entries
	for _, c := range []struct {
		index, n int
		want     []api.Entry
	}{
		{6, 0, nil}, {6, 1, e[:1]}, {6, 2, e[:2]}, {6, 3, e[:3]}, {6, 4, e}, {6, 5, e}, {6, 4096, e}, {6, math.MaxInt, e},
		{7, 0, nil}, {7, 1, e[1:2]}, {7, 3, e[1:]}, {7, 4, e[1:]}, {7, math.MaxInt - 1, e[1:]},
		{8, 1, e[2:3]}, {8, 2, e[2:]}, {8, 3, e[2:]},
		{9, 0, nil}, {9, 1, e[3:]}, {9, 2, e[3:]},
		{10, 0, nil}, {10, 1, nil}, {10, math.MaxInt, nil},
	} {
		wantFrom(t, l, c.index, c.n, c.want, api.OK)
	}
	for _, index := range []int{5, 4, 0, -1, 11, 12, mostIndex, math.MinInt, math.MaxInt} {
		for _, n := range []int{0, 1, 9, math.MaxInt, -1, math.MinInt} {
			wantFrom(t, l, index, n, nil, api.ErrNone)
		}
	}
	for index := 6; index <= 10; index++ {
		for _, n := range []int{-1, -2, -4096, math.MinInt, math.MinInt + 1} {
			wantFrom(t, l, index, n, nil, api.ErrRange)
		}
	}
}

// TestP15_3FromOfAll: each number and each n, against the chapter's words.
func TestP15_3FromOfAll(t *testing.T) {
	for _, l := range someLogs() {
		last := l.Base + len(l.Entries)
		for _, index := range about(l) {
			for _, n := range []int{math.MinInt, -2, -1, 0, 1, 2, 3, 8, 4095, 4096, 4097, math.MaxInt} {
				switch {
				case index < l.Base+1 || index > last+1:
					wantFrom(t, l, index, n, nil, api.ErrNone)
				case n < 0:
					wantFrom(t, l, index, n, nil, api.ErrRange)
				default:
					behind := l.Entries[len(l.Entries)-(last+1-index):]
					wantFrom(t, l, index, n, behind[:min(n, len(behind))], api.OK)
				}
			}
		}
	}
}

func wantCompact(t *testing.T, l raftlog.Log, index int, want raftlog.Log, wantErr api.Errno) {
	t.Helper()
	if got, err := raftlog.Compact(l, index); !sameLog(got, want) || err != wantErr {
		t.Errorf("Compact(%s, %d) = %s, %d, want %s, %d", short(l), index, short(got), err, short(want), wantErr)
	}
}

func TestP15_3Compact(t *testing.T) {
	l := logOf(5, 2, 3, 3, 4, 7)
	for i, term := range []int{2, 3, 3, 4, 7} {
		wantCompact(t, l, 5+i, raftlog.Log{Base: 5 + i, BaseTerm: term, Entries: l.Entries[i:]}, api.OK)
	}
	for _, index := range []int{4, 3, 0, -1, 10, 11, mostIndex, math.MinInt, math.MaxInt} {
		wantCompact(t, l, index, raftlog.Log{}, api.ErrNone)
	}
	wantCompact(t, raftlog.Log{}, 0, raftlog.Log{}, api.OK)
	wantCompact(t, raftlog.Log{}, 1, raftlog.Log{}, api.ErrNone)
	wantCompact(t, raftlog.Log{}, -1, raftlog.Log{}, api.ErrNone)
	wantCompact(t, logOf(9, 0), 9, logOf(9, 0), api.OK)
	wantCompact(t, logOf(mostIndex-2, 1, 2, 3), mostIndex, logOf(mostIndex, 3), api.OK)
	wantCompact(t, logOf(0, 0, 1, 1, 2), 0, logOf(0, 0, 1, 1, 2), api.OK)
}

// TestP15_3CompactOfAll: each number, against the chapter's words; what is left is told as before.
func TestP15_3CompactOfAll(t *testing.T) {
	for _, l := range someLogs() {
		m := numbered(l)
		for _, index := range about(l) {
			term, there := m[index]
			if !there {
				wantCompact(t, l, index, raftlog.Log{}, api.ErrNone)
				continue
			}
			wantCompact(t, l, index, raftlog.Log{Base: index, BaseTerm: term, Entries: l.Entries[index-l.Base:]}, api.OK)
			c, _ := raftlog.Compact(l, index)
			if len(l.Entries) > 10 {
				continue
			}
			for n := l.Base; n <= l.Base+len(l.Entries)+1; n++ {
				got, err := raftlog.Term(c, n)
				if want, there := m[n]; n < index || !there {
					if got != 0 || err != api.ErrNone {
						t.Errorf("Term(%s, %d) = %d, %d", short(c), n, got, err)
					}
				} else if got != want || err != api.OK {
					t.Errorf("Term(%s, %d) = %d, %d, want %d", short(c), n, got, err, want)
				}
			}
		}
	}
}
