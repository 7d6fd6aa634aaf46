package wal_test

import (
	"bytes"
	"fmt"
	"math"
	"slices"
	"strings"
	"sync"
	"testing"

	"transept/api"
	"transept/crc"
	"transept/wal"
)

const (
	highest  = 1 << 40 // MaxIndex
	longest  = 4096    // MaxPayload
	most     = 4096    // MaxRecords
	topLimit = 1 << 20
)

// group is the records of one segment.
type group = []string

// frame answers the octets of a frame, by another hand than the program's.
func frame(kind byte, data string) []byte {
	b := append([]byte{0xa7, kind, byte(len(data) >> 8), byte(len(data))}, data...)
	sum := crc.Sum(b)
	return append(b, byte(sum>>24), byte(sum>>16), byte(sum>>8), byte(sum))
}

func seg(first int, records ...string) wal.Seg {
	s := wal.Seg{First: first}
	for _, r := range records {
		s.Data = append(s.Data, frame(1, r)...)
	}
	return s
}

// logOf answers the log of those segments, its records numbered from first on.
func logOf(first int, groups ...group) wal.Log {
	l := wal.Log{Next: first}
	for _, g := range groups {
		l.Segs = append(l.Segs, seg(l.Next, g...))
		l.Next += len(g)
	}
	return l
}

// lists answers texts as records.
func lists(texts ...string) [][]byte {
	var l [][]byte
	for _, s := range texts {
		l = append(l, []byte(s))
	}
	return l
}

// waiting answers l with those that wait, and no others.
func waiting(l wal.Log, texts ...string) wal.Log {
	l.Wait = lists(texts...)
	return l
}

// next answers l with another Next.
func next(l wal.Log, n int) wal.Log {
	l.Next = n
	return l
}

// withSeg answers l with another segment at a place.
func withSeg(l wal.Log, at int, s wal.Seg) wal.Log {
	l.Segs = slices.Clone(l.Segs)
	l.Segs[at] = s
	return l
}

func text(n int) string {
	return strings.Repeat("transept", n/8+1)[:n]
}

func many(n int, s string) []string {
	return slices.Repeat([]string{s}, n)
}

// singles answers n segments of one record each.
func singles(n int) []group {
	return slices.Repeat([]group{{"s"}}, n)
}

func sameSeg(s, u wal.Seg) bool {
	return s.First == u.First && bytes.Equal(s.Data, u.Data)
}

func same(l, m wal.Log) bool {
	return l.Next == m.Next && slices.EqualFunc(l.Segs, m.Segs, sameSeg) && slices.EqualFunc(l.Wait, m.Wait, bytes.Equal)
}

// shape answers what a test tells of a log.
func shape(l wal.Log) string {
	var b strings.Builder
	for i, s := range l.Segs {
		if i == 6 {
			b.WriteString("..")
			break
		}
		fmt.Fprintf(&b, "%d:%d ", s.First, len(s.Data))
	}
	return fmt.Sprintf("%d segments [%s], next %d, %d wait", len(l.Segs), b.String(), l.Next, len(l.Wait))
}

func wantLog(t *testing.T, what string, got wal.Log, err api.Errno, want wal.Log) {
	t.Helper()
	if err != api.OK || !same(got, want) {
		t.Errorf("%s: %s, %d; want %s", what, shape(got), err, shape(want))
	}
	if err := wal.Check(got); err != api.OK {
		t.Errorf("%s: Check of the answer: %d", what, err)
	}
}

// wantRefused: beside the error nothing else is told.
func wantRefused(t *testing.T, what string, got wal.Log, err api.Errno, want api.Errno) {
	t.Helper()
	if err != want || !same(got, wal.Log{}) {
		t.Errorf("%s: %s, %d; want %d alone", what, shape(got), err, want)
	}
}

func wantRecords(t *testing.T, what string, l wal.Log, first int, want ...string) {
	t.Helper()
	got, n, err := wal.Records(l)
	if err != api.OK || n != first || !slices.EqualFunc(got, lists(want...), bytes.Equal) {
		t.Errorf("Records of %s: %q from %d, %d; want %q from %d", what, got, n, err, want, first)
	}
}

// wantRecover: the log, all its records, and the error, which may stand beside them.
func wantRecover(t *testing.T, what string, segs []wal.Seg, want wal.Log, texts []string, wantErr api.Errno) {
	t.Helper()
	l, records, err := wal.Recover(segs)
	if err != wantErr || !same(l, want) || !slices.EqualFunc(records, lists(texts...), bytes.Equal) {
		t.Errorf("Recover of %s: %s, %d records, %d; want %s, %d records, %d",
			what, shape(l), len(records), err, shape(want), len(texts), wantErr)
	}
	if err := wal.Check(l); err != api.OK {
		t.Errorf("Recover of %s: Check of the answer: %d", what, err)
	}
}

func wantNotRecovered(t *testing.T, what string, segs ...wal.Seg) {
	t.Helper()
	wantRecover(t, what, segs, wal.Log{}, nil, api.ErrOrder)
}

func appended(t *testing.T, l wal.Log, texts ...string) wal.Log {
	t.Helper()
	l, err := wal.Append(l, lists(texts...))
	if err != api.OK {
		t.Fatalf("Append of %d records: %d", len(texts), err)
	}
	return l
}

func flushed(t *testing.T, l wal.Log, limit int) wal.Log {
	t.Helper()
	m, err := wal.Flush(l, limit)
	if err != api.OK {
		t.Fatalf("Flush of %s by %d: %d", shape(l), limit, err)
	}
	return m
}

// TestExample is the chapter's.
func TestExample(t *testing.T) {
	l := flushed(t, appended(t, wal.Log{}, "a", "b"), 10)
	wantLog(t, "a, b flushed", l, api.OK, logOf(0, group{"a", "b"}))
	if len(l.Segs[0].Data) != 18 {
		t.Errorf("a, b flushed: %d octets", len(l.Segs[0].Data))
	}
	l = flushed(t, appended(t, l, "c"), 10)
	wantLog(t, "c flushed", l, api.OK, logOf(0, group{"a", "b"}, group{"c"}))
	if l.Segs[1].First != 2 || l.Next != 3 {
		t.Errorf("c flushed: First %d, Next %d", l.Segs[1].First, l.Next)
	}
}

// TestP8_1ByHand: every octet written out, so that no helper of this file can share a fault with the program.
func TestP8_1ByHand(t *testing.T) {
	sum := crc.Sum([]byte{0xa7, 1, 0, 2, 'h', 'i'})
	want := []byte{0xa7, 1, 0, 2, 'h', 'i', byte(sum >> 24), byte(sum >> 16), byte(sum >> 8), byte(sum)}
	l := flushed(t, appended(t, wal.Log{Next: 7}, "hi"), 1)
	if l.Next != 8 || len(l.Wait) != 0 || len(l.Segs) != 1 || l.Segs[0].First != 7 || !bytes.Equal(l.Segs[0].Data, want) {
		t.Errorf("hi flushed: %s; want % x", shape(l), want)
	}
}

// named is a log and what is told of it.
type named struct {
	what string
	wal.Log
}

// small are logs that may be, none of them great.
func small() []named {
	return []named{
		{"nothing", wal.Log{}},
		{"empty lists", wal.Log{Segs: []wal.Seg{}, Wait: [][]byte{}}},
		{"no segments, next 7", wal.Log{Next: 7}},
		{"no segments, next at its highest", wal.Log{Next: highest}},
		{"an empty segment", logOf(0, nil)},
		{"an empty segment, not nil", wal.Log{Segs: []wal.Seg{{Data: []byte{}}}}},
		{"an empty segment at the highest number", logOf(highest, nil)},
		{"empty segments alone", logOf(3, nil, nil, nil)},
		{"one record", logOf(0, group{"a"})},
		{"one record, the last that may be", logOf(highest-1, group{"a"})},
		{"empty records", logOf(5, group{"", ""}, group{""})},
		{"two segments", logOf(0, group{"a", "b"}, group{"c"})},
		{"three segments", logOf(40, group{"first", "second"}, group{"", "third"}, group{"fourth"})},
		{"an empty segment first", logOf(2, nil, group{"a", "b"}, group{"c"})},
		{"an empty segment between", logOf(2, group{"a", "b"}, nil, group{"c"})},
		{"an empty segment last", logOf(2, group{"a", "b"}, group{"c"}, nil)},
		{"up to the highest number", logOf(highest-3, group{"a"}, group{"b", "c"}, nil)},
		{"a record like a frame", logOf(0, group{string(frame(1, "x")), string(frame(2, "y"))})},
		{"some that wait", waiting(logOf(0, group{"a"}, group{"b"}), "c", "", "d")},
		{"some that wait on nothing", waiting(wal.Log{Next: 9}, "", "x")},
		{"nil that waits", wal.Log{Wait: [][]byte{nil, nil}}},
		{"more wait than numbers are left", waiting(logOf(highest-1, group{"a"}), "b", "c")},
	}
}

// mayBe are logs that may be, at the edges too.
func mayBe() []named {
	return append(small(),
		named{"the longest record", logOf(0, group{text(longest)}, group{"a"})},
		named{"the longest that waits", waiting(wal.Log{}, "a", text(longest), "b")},
		named{"4095 empty segments", logOf(1, make([]group, most-1)...)},
		named{"4096 empty segments", logOf(highest, make([]group, most)...)},
		named{"4096 segments", logOf(0, singles(most)...)},
		named{"4097 records in a segment", logOf(0, many(most+1, "r"))},
		named{"4095 that wait", waiting(logOf(0, group{"a"}), many(most-1, "w")...)},
		named{"4096 that wait", waiting(logOf(0, group{"a"}), many(most, "w")...)})
}

// outside are numbers that no record has.
func outside() []int {
	return []int{-1, -2, -highest, highest + 1, highest + 2, 1 << 41, 1 << 62, math.MaxInt, math.MinInt, math.MinInt + 1}
}

// mayNotBe are logs with one thing wrong.
func mayNotBe() []named {
	l := []named{
		{"4097 empty segments", logOf(0, make([]group, most+1)...)},
		{"4097 segments", logOf(0, singles(most+1)...)},
		{"4097 that wait", waiting(logOf(0, group{"a"}), many(most+1, "w")...)},
		{"4097 that wait on nothing", waiting(wal.Log{}, many(most+1, "")...)},
		{"a record too many for its number", logOf(highest, group{"a"})},
		{"records too many for their numbers", logOf(highest-1, group{"a"}, group{"b"})},
		{"an empty segment behind the highest number", logOf(highest, group{"a"}, nil)},
		{"a first of -1 and a record", logOf(-1, group{"a"})},
		{"a first of -1, and others", logOf(-1, group{"a"}, group{"b"})},
		{"a first at the end of int and a record", logOf(math.MaxInt, group{"a"})},
	}
	for _, n := range outside() {
		l = append(l,
			named{"no segments, next outside", wal.Log{Next: n}},
			named{"an empty segment outside", logOf(n, nil)},
			named{"a segment outside", logOf(n, group{"a", "b"})},
			named{"next outside", next(logOf(4, group{"a"}), n)},
			named{"a first outside", withSeg(logOf(4, group{"a"}), 0, seg(n, "a"))},
			named{"a first outside behind another", withSeg(logOf(4, group{"a"}, group{"b"}), 1, seg(n, "b"))})
	}
	for _, n := range []int{longest + 1, longest + 2, 1 << 16, 1 << 17} {
		for at := range 3 {
			wait := []string{"a", "b", "c"}
			wait[at] = text(n)
			l = append(l, named{"one that waits too long", waiting(logOf(0, group{"a"}), wait...)})
		}
	}
	l = append(l, gaps()...)
	return append(l, torn()...)
}

// gaps are logs with a number that does not go on.
func gaps() []named {
	whole := logOf(10, group{"a", "b"}, group{"c"}, group{"d", "e"})
	var l []named
	for _, by := range []int{-10, -2, -1, 1, 2, 1 << 32} {
		l = append(l, named{"a next that is not behind the last", next(whole, whole.Next+by)},
			named{"a next that is not behind an empty segment", next(logOf(10, nil), 10+by)})
		for at := range whole.Segs {
			moved := withSeg(whole, at, wal.Seg{First: whole.Segs[at].First + by, Data: whole.Segs[at].Data})
			l = append(l, named{"a first that does not go on", moved})
		}
		last := withSeg(next(whole, whole.Next+by), 2, wal.Seg{First: whole.Segs[2].First + by, Data: whole.Segs[2].Data})
		l = append(l, named{"a first that does not go on, with its next", last},
			named{"an empty segment that does not go on", withSeg(next(logOf(10, group{"a"}, nil), 11+by), 1, wal.Seg{First: 11 + by})})
	}
	swapped := logOf(10, group{"a", "b"}, group{"c", "d"})
	slices.Reverse(swapped.Segs)
	return append(l, named{"segments the wrong way round", swapped})
}

// torn are logs of which one segment is not whole frames of Kind 1; what is whole goes on to the next segment and
// to Next in the one, and what was whole in the other.
func torn() []named {
	groups := []group{{"a", "bc"}, {"d", "ef"}, {"g", "hi"}}
	var l []named
	add := func(what string, at int, data []byte, whole int) {
		for _, as := range []int{whole, 2} {
			m := wal.Log{}
			for i, g := range groups {
				s := seg(m.Next, g...)
				if i == at {
					s.Data = data
				}
				m.Segs = append(m.Segs, s)
				m.Next += 2
				if i == at {
					m.Next += as - 2
				}
			}
			l = append(l, named{what, m})
		}
	}
	for at, g := range groups {
		data := seg(0, g...).Data
		for n := 1; n < len(data); n++ {
			if n != 9 {
				add(fmt.Sprintf("segment %d cut off at %d", at, n), at, data[:n], min(n/9, 1))
			}
		}
		for n := range data {
			turned := slices.Clone(data)
			turned[n] ^= 0x10
			add(fmt.Sprintf("segment %d turned at %d", at, n), at, turned, min(n/9, 1))
		}
		for _, kind := range []byte{0, 2, 3, 0x80, 0xff} {
			other := frame(kind, "x")
			add("another kind first", at, slices.Concat(other, data), 0)
			add("another kind between", at, slices.Concat(data[:9], other, data[9:]), 1)
			add("another kind behind", at, slices.Concat(data, other), 2)
			add("another kind in the stead", at, slices.Concat(data[:9], frame(kind, "bc")), 1)
			add("another kind alone", at, other, 0)
		}
		add("zeros behind", at, append(slices.Clone(data), 0), 2)
	}
	return l
}

func TestP8_1Check(t *testing.T) {
	for _, l := range mayBe() {
		if err := wal.Check(l.Log); err != api.OK {
			t.Errorf("Check of %s: %d", l.what, err)
		}
	}
	for _, l := range mayNotBe() {
		if err := wal.Check(l.Log); err != api.ErrState {
			t.Errorf("Check of %s (%s): %d; want %d", l.what, shape(l.Log), err, api.ErrState)
		}
	}
}

// TestP8_1CheckCapacity: what stands behind a list's end is not there.
func TestP8_1CheckCapacity(t *testing.T) {
	l := waiting(logOf(0, group{"a"}), "w")
	l.Segs = append(l.Segs, seg(-1, "x"))[:1]
	l.Wait = append(l.Wait, []byte(text(longest+1)))[:1]
	l.Segs[0].Data = append(l.Segs[0].Data, 1, 2, 3)[:9]
	if err := wal.Check(l); err != api.OK {
		t.Errorf("Check with what may not be behind the ends: %d", err)
	}
	l.Segs[0].Data = l.Segs[0].Data[:8]
	if err := wal.Check(l); err != api.ErrState {
		t.Errorf("Check of a segment cut off with the rest behind: %d", err)
	}
}

// TestStateFirst: of a log that may not be each call but Recover tells that, whatever else is wrong.
func TestStateFirst(t *testing.T) {
	tooLong, tooMany := lists(text(longest+1)), lists(many(most+1, "")...)
	for _, l := range mayNotBe() {
		for _, records := range [][][]byte{nil, lists("a"), tooLong, tooMany} {
			got, err := wal.Append(l.Log, records)
			wantRefused(t, "Append to "+l.what, got, err, api.ErrState)
		}
		for _, limit := range []int{1, 100, topLimit, 0, -1, topLimit + 1, math.MaxInt, math.MinInt} {
			got, err := wal.Flush(l.Log, limit)
			wantRefused(t, "Flush of "+l.what, got, err, api.ErrState)
		}
		for _, below := range []int{0, 11, math.MaxInt, math.MinInt} {
			got, err := wal.Truncate(l.Log, below)
			wantRefused(t, "Truncate of "+l.what, got, err, api.ErrState)
		}
		if records, first, err := wal.Records(l.Log); err != api.ErrState || len(records) != 0 || first != 0 {
			t.Errorf("Records of %s: %d from %d, %d; want %d alone", l.what, len(records), first, err, api.ErrState)
		}
	}
}

func TestP8_1Append(t *testing.T) {
	batches := [][]string{nil, {}, {""}, {"a"}, {"a", "", "b"}, {text(longest)}, {"x", text(longest), text(longest - 1)}}
	for _, l := range small() {
		for _, batch := range batches {
			got, err := wal.Append(l.Log, lists(batch...))
			want := l.Log
			want.Wait = slices.Concat(l.Wait, lists(batch...))
			wantLog(t, "Append to "+l.what, got, err, want)
		}
		got, err := wal.Append(l.Log, [][]byte{nil, {}})
		wantLog(t, "Append of nil to "+l.what, got, err, wal.Log{Segs: l.Segs, Next: l.Next, Wait: slices.Concat(l.Wait, lists("", ""))})
	}
}

func TestP8_1AppendCount(t *testing.T) {
	for _, held := range []int{0, 1, 2, 2048, most - 1, most} {
		l := waiting(logOf(0, group{"a"}), many(held, "h")...)
		for _, n := range []int{most - held, most - held - 1} {
			if n >= 0 {
				got, err := wal.Append(l, lists(many(n, "n")...))
				wantLog(t, "Append of as many as may wait", got, err, waiting(l, slices.Concat(many(held, "h"), many(n, "n"))...))
			}
		}
		for _, n := range []int{most - held + 1, most - held + 2, most + 1, 2*most + 1} {
			got, err := wal.Append(l, lists(many(n, "n")...))
			wantRefused(t, "Append of too many", got, err, api.ErrCount)
		}
	}
}

// TestP8_1AppendLong: one that is too long is told, wherever it stands, ahead of too many.
func TestP8_1AppendLong(t *testing.T) {
	full := waiting(wal.Log{}, many(most, "h")...)
	for _, n := range []int{longest + 1, longest + 2, 1<<16 + 1, 1 << 20} {
		for _, batch := range [][]string{{text(n)}, {text(n), "a"}, {"a", text(n)}, {"a", text(n), "b"}, {text(longest), text(n)}, {text(n), text(n)}} {
			got, err := wal.Append(logOf(0, group{"a"}), lists(batch...))
			wantRefused(t, "Append of one too long", got, err, api.ErrLong)
			got, err = wal.Append(full, lists(batch...))
			wantRefused(t, "Append of one too long, and too many", got, err, api.ErrLong)
		}
	}
	batch := lists(many(most+1, "n")...)
	for _, at := range []int{0, 2000, most} {
		long := slices.Clone(batch)
		long[at] = []byte(text(longest + 1))
		got, err := wal.Append(wal.Log{}, long)
		wantRefused(t, "Append of too many, one too long", got, err, api.ErrLong)
	}
	got, err := wal.Append(full, nil)
	wantLog(t, "Append of none to as many as may wait", got, err, full)
}

// TestP8_1Flush: where segments begin, by hand. A record of n octets takes 8 more.
func TestP8_1Flush(t *testing.T) {
	three := group{"a", "b", "c"}
	for _, c := range []struct {
		l     wal.Log
		wait  []string
		limit int
		want  wal.Log
	}{
		{wal.Log{}, nil, 1, wal.Log{}},
		{wal.Log{Next: 7}, nil, 1, wal.Log{Next: 7}},
		{wal.Log{Next: highest}, nil, 1, wal.Log{Next: highest}},
		{logOf(4, three), nil, 1, logOf(4, three)},
		{logOf(4, nil), nil, 1, logOf(4, nil)},
		{wal.Log{}, group{""}, 1, logOf(0, group{""})},
		{wal.Log{Next: 7}, group{"a"}, 1, logOf(7, group{"a"})},
		{wal.Log{Next: 7}, three, 1, logOf(7, group{"a"}, group{"b"}, group{"c"})},
		{wal.Log{Next: 7}, three, 9, logOf(7, group{"a"}, group{"b"}, group{"c"})},
		{wal.Log{Next: 7}, three, 10, logOf(7, group{"a", "b"}, group{"c"})},
		{wal.Log{Next: 7}, three, 18, logOf(7, group{"a", "b"}, group{"c"})},
		{wal.Log{Next: 7}, three, 19, logOf(7, three)},
		{wal.Log{Next: 7}, three, topLimit, logOf(7, three)},
		{wal.Log{}, group{"", "", ""}, 8, logOf(0, group{""}, group{""}, group{""})},
		{wal.Log{}, group{"", "", ""}, 9, logOf(0, group{"", ""}, group{""})},
		{logOf(3, nil), group{"a"}, 1, logOf(3, group{"a"})},
		{logOf(3, nil), group{"a", "b"}, 1, logOf(3, group{"a"}, group{"b"})},
		{logOf(3, group{"x"}, nil), group{"a"}, 1, logOf(3, group{"x"}, group{"a"})},
		{logOf(3, nil, group{"x"}), group{"a"}, 9, logOf(3, nil, group{"x"}, group{"a"})},
		{logOf(3, group{"x"}), group{"a"}, 8, logOf(3, group{"x"}, group{"a"})},
		{logOf(3, group{"x"}), group{"a"}, 9, logOf(3, group{"x"}, group{"a"})},
		{logOf(3, group{"x"}), group{"a"}, 10, logOf(3, group{"x", "a"})},
		{logOf(3, group{"x", "y"}, group{"z"}), group{"a", "b"}, 10, logOf(3, group{"x", "y"}, group{"z", "a"}, group{"b"})},
		{logOf(3, group{"x"}, group{"y", "z"}), three, 10, logOf(3, group{"x"}, group{"y", "z"}, group{"a", "b"}, group{"c"})},
		{logOf(3, group{"x"}), group{text(longest), "a"}, 10, logOf(3, group{"x", text(longest)}, group{"a"})},
		{wal.Log{}, group{text(longest), "a"}, 4105, logOf(0, group{text(longest), "a"})},
		{wal.Log{}, group{text(longest), "a"}, 4104, logOf(0, group{text(longest)}, group{"a"})},
	} {
		got, err := wal.Flush(waiting(c.l, c.wait...), c.limit)
		wantLog(t, fmt.Sprintf("Flush of %s, %d wait, by %d", shape(c.l), len(c.wait), c.limit), got, err, c.want)
	}
}

// TestP8_1FlushGreat: onto a segment of 2^20 octets, and of one fewer.
func TestP8_1FlushGreat(t *testing.T) {
	great := append(many(255, text(longest)), text(2048))
	nearly := append(many(255, text(longest)), text(2047))
	if n := len(seg(0, great...).Data); n != topLimit {
		t.Fatalf("a segment of %d octets", n)
	}
	got, err := wal.Flush(waiting(logOf(0, great), "a"), topLimit)
	wantLog(t, "Flush onto 2^20 octets", got, err, logOf(0, great, group{"a"}))
	got, err = wal.Flush(waiting(logOf(0, nearly), "a"), topLimit)
	wantLog(t, "Flush onto 2^20 - 1 octets", got, err, logOf(0, append(nearly, "a")))
	got, err = wal.Flush(waiting(wal.Log{Next: 5}, append(slices.Clone(great), "a", "b")...), topLimit)
	wantLog(t, "Flush of 2^20 octets and more", got, err, logOf(5, great, group{"a", "b"}))
}

func TestP8_1FlushRange(t *testing.T) {
	logs := append(small(), named{"what would be full", waiting(logOf(0, singles(most)...), "a")})
	for _, l := range logs {
		for _, limit := range []int{0, -1, -10, -topLimit, topLimit + 1, topLimit + 2, 1 << 32, 1<<32 + 1, math.MaxInt, math.MinInt, math.MinInt + 1} {
			got, err := wal.Flush(l.Log, limit)
			wantRefused(t, fmt.Sprintf("Flush of %s by %d", l.what, limit), got, err, api.ErrRange)
		}
	}
}

func TestP8_1FlushFull(t *testing.T) {
	for _, c := range []struct {
		what  string
		l     wal.Log
		limit int
		full  bool
	}{
		{"the highest next and none", wal.Log{Next: highest}, 10, false},
		{"the highest next and one", waiting(wal.Log{Next: highest}, "a"), 10, true},
		{"the highest next behind a record, and one", waiting(logOf(highest-1, group{"a"}), "b"), topLimit, true},
		{"an empty segment at the highest next, and one", waiting(logOf(highest, nil), "b"), topLimit, true},
		{"one number left and one", waiting(wal.Log{Next: highest - 1}, "a"), 10, false},
		{"one number left and two", waiting(wal.Log{Next: highest - 1}, "a", "b"), 10, true},
		{"two numbers left and two", waiting(logOf(highest-3, group{"x"}), "a", "b"), 10, false},
		{"4096 numbers left and 4096", waiting(wal.Log{Next: highest - most}, many(most, "w")...), topLimit, false},
		{"4095 numbers left and 4096", waiting(wal.Log{Next: highest - most + 1}, many(most, "w")...), topLimit, true},
		{"4096 segments and none", logOf(0, singles(most)...), 1, false},
		{"4096 segments and one that goes in", waiting(logOf(0, singles(most)...), "a"), 10, false},
		{"4096 segments and one that goes in no more", waiting(logOf(0, singles(most)...), "a"), 9, true},
		{"4096 segments, two, of which one goes in", waiting(logOf(0, singles(most)...), "a", "b"), 10, true},
		{"4096 segments, the last one empty, and one", waiting(logOf(0, append(singles(most-1), nil)...), "a"), 1, false},
		{"4095 segments and one", waiting(logOf(0, singles(most-1)...), "a"), 1, false},
		{"4095 segments and two", waiting(logOf(0, singles(most-1)...), "a", "b"), 1, true},
		{"none and 4096", waiting(wal.Log{}, many(most, "")...), 1, false},
		{"one and 4096", waiting(logOf(0, group{"s"}), many(most, "")...), 1, true},
		{"4096 and 4096", waiting(logOf(0, singles(most)...), many(most, "")...), 1, true},
		{"no numbers and no segments left", waiting(logOf(highest-most, singles(most)...), "a"), 1, true},
	} {
		got, err := wal.Flush(c.l, c.limit)
		if c.full {
			wantRefused(t, "Flush of "+c.what, got, err, api.ErrFull)
		} else {
			wantLog(t, "Flush of "+c.what, got, err, flushedBy(c.l, c.limit))
		}
	}
}

// flushedBy answers l flushed, by another hand than the program's: whole groups at a time.
func flushedBy(l wal.Log, limit int) wal.Log {
	out := wal.Log{Segs: slices.Clone(l.Segs), Next: l.Next}
	wait := l.Wait
	for len(wait) > 0 {
		size, n := 0, len(out.Segs)
		if n > 0 {
			size = len(out.Segs[n-1].Data)
		}
		if n == 0 || size >= limit {
			out.Segs = append(out.Segs, wal.Seg{First: out.Next})
			n, size = n+1, 0
		}
		taken := 0
		for taken < len(wait) && size < limit {
			size += 8 + len(wait[taken])
			taken++
		}
		data := slices.Clone(out.Segs[n-1].Data)
		for _, r := range wait[:taken] {
			data = append(data, frame(1, string(r))...)
		}
		out.Segs[n-1].Data = data
		out.Next += taken
		wait = wait[taken:]
	}
	return out
}

func TestP8_2RecoverNone(t *testing.T) {
	wantRecover(t, "nil", nil, wal.Log{}, nil, api.OK)
	wantRecover(t, "no segments", []wal.Seg{}, wal.Log{}, nil, api.OK)
}

// TestP8_2RecoverEmpty: a segment of which nothing is whole is left out, but for the first.
func TestP8_2RecoverEmpty(t *testing.T) {
	for _, c := range []struct {
		what string
		segs []wal.Seg
		want wal.Log
		all  []string
		err  api.Errno
	}{
		{"one empty", []wal.Seg{seg(0)}, logOf(0, nil), nil, api.OK},
		{"one empty at 7", []wal.Seg{{First: 7, Data: []byte{}}}, logOf(7, nil), nil, api.OK},
		{"empty first", []wal.Seg{seg(7), seg(7, "a")}, logOf(7, nil, group{"a"}), group{"a"}, api.OK},
		{"two empty first", []wal.Seg{seg(7), seg(7), seg(7, "a")}, logOf(7, nil, group{"a"}), group{"a"}, api.OK},
		{"empty between", []wal.Seg{seg(7, "a"), seg(8), seg(8, "b")}, logOf(7, group{"a"}, group{"b"}), group{"a", "b"}, api.OK},
		{"two empty between", []wal.Seg{seg(7, "a"), seg(8), seg(8), seg(8, "b")}, logOf(7, group{"a"}, group{"b"}), group{"a", "b"}, api.OK},
		{"empty last", []wal.Seg{seg(7, "a"), seg(8)}, logOf(7, group{"a"}), group{"a"}, api.OK},
		{"empty alone", []wal.Seg{seg(7), seg(7), seg(7)}, logOf(7, nil), nil, api.OK},
		{"empty first, behind it a gap", []wal.Seg{seg(7), seg(8, "a")}, logOf(7, nil), nil, api.ErrCorrupt},
		{"empty between that does not go on", []wal.Seg{seg(7, "a"), seg(9), seg(8, "b")}, logOf(7, group{"a"}), group{"a"}, api.ErrCorrupt},
		{"empty last that does not go on", []wal.Seg{seg(7, "a"), seg(7)}, logOf(7, group{"a"}), group{"a"}, api.ErrCorrupt},
		{"empty behind a tear", []wal.Seg{{First: 7, Data: frame(1, "a")[:8]}, seg(7)}, logOf(7, nil), nil, api.ErrCorrupt},
		{"an octet alone", []wal.Seg{{First: 7, Data: []byte{0xa7}}}, logOf(7, nil), nil, api.OK},
		{"an octet alone last", []wal.Seg{seg(7, "a"), {First: 8, Data: []byte{0}}}, logOf(7, group{"a"}), group{"a"}, api.OK},
		{"an octet alone between", []wal.Seg{seg(7, "a"), {First: 8, Data: []byte{0}}, seg(8, "b")}, logOf(7, group{"a"}), group{"a"}, api.ErrCorrupt},
		{"an empty record", []wal.Seg{seg(7, "a"), seg(8, ""), seg(9, "b")}, logOf(7, group{"a"}, group{""}, group{"b"}), group{"a", "", "b"}, api.OK},
	} {
		wantRecover(t, c.what, c.segs, c.want, c.all, c.err)
	}
}

// ends are where a group's records end as frames.
func ends(g group) []int {
	var l []int
	at := 0
	for _, r := range g {
		at += 8 + len(r)
		l = append(l, at)
	}
	return l
}

// wholeAhead answers how many of a group's records end ahead of an octet.
func wholeAhead(g group, octet int) int {
	whole := 0
	for _, end := range ends(g) {
		if end <= octet {
			whole++
		}
	}
	return whole
}

// wantBeginning: of the groups, as segments from first on of which the at-th has other octets, the records are
// told that lie ahead of it and the first whole of its own; a segment behind it is told as ErrCorrupt.
func wantBeginning(t *testing.T, what string, first int, groups []group, at int, data []byte, whole int) {
	t.Helper()
	l := logOf(first, groups...)
	segs := withSeg(l, at, wal.Seg{First: l.Segs[at].First, Data: data}).Segs
	kept := slices.Clone(groups[:at])
	if whole > 0 || at == 0 {
		kept = append(kept, groups[at][:whole])
	}
	err := api.OK
	if at < len(groups)-1 {
		err = api.ErrCorrupt
	}
	wantRecover(t, what, segs, logOf(first, kept...), slices.Concat(kept...), err)
}

// TestP8_5Cut: each segment cut off at every octet.
func TestP8_5Cut(t *testing.T) {
	for _, groups := range [][]group{
		{{"a"}},
		{{"a", "", "bcd"}},
		{{"a", "b"}, {"c", "", text(300)}},
		{{""}, {"x", text(100)}, {"y", "z", ""}},
	} {
		for at, g := range groups {
			data := seg(0, g...).Data
			for n := range data {
				whole := wholeAhead(g, n)
				wantBeginning(t, fmt.Sprintf("segment %d cut off at %d", at, n), 30, groups, at, data[:n], whole)
			}
		}
	}
}

// TestP8_2RecoverRot: each bit of each segment turned, and each octet written over: nothing rotten is told.
func TestP8_2RecoverRot(t *testing.T) {
	groups := []group{{"a", "bcd"}, {"", "e"}, {"f", "gh", ""}}
	for at, g := range groups {
		data := seg(0, g...).Data
		for n := range data {
			whole := wholeAhead(g, n)
			for bit := range 8 {
				rotten := slices.Clone(data)
				rotten[n] ^= 1 << bit
				wantBeginning(t, fmt.Sprintf("segment %d, bit %d of octet %d", at, bit, n), 5, groups, at, rotten, whole)
			}
			over := slices.Clone(data)
			for i := n; i < len(over); i++ {
				over[i] ^= 0xff
			}
			wantBeginning(t, fmt.Sprintf("segment %d written over from %d on", at, n), 5, groups, at, over, whole)
		}
	}
}

// TestP8_2RecoverKind: a frame of another Kind ends it, whatever stands behind.
func TestP8_2RecoverKind(t *testing.T) {
	groups := []group{{"a", "bcd"}, {"", "e"}, {"f", "gh"}}
	for at, g := range groups {
		data := seg(0, g...).Data
		for _, kind := range []byte{0, 2, 3, 0x80, 0xff} {
			for whole, end := range append([]int{0}, ends(g)...) {
				within := slices.Concat(data[:end], frame(kind, "other"), data[end:])
				wantBeginning(t, fmt.Sprintf("segment %d, Kind %d behind %d", at, kind, whole), 5, groups, at, within, whole)
				last := slices.Concat(data[:end], frame(kind, ""))
				wantBeginning(t, fmt.Sprintf("segment %d, Kind %d last behind %d", at, kind, whole), 5, groups, at, last, whole)
			}
		}
	}
}

// TestP8_2RecoverGap: a segment that goes on at another number, with or without others behind it.
func TestP8_2RecoverGap(t *testing.T) {
	l := logOf(5, group{"a", "b"}, group{"c"}, group{"d", "e"})
	for at := 1; at < 3; at++ {
		ahead := []group{{"a", "b"}, {"c"}}[:at]
		for _, n := range append(outside(), 0, 1, 5, 6, 9, 10, highest, highest-1) {
			segs := withSeg(l, at, wal.Seg{First: n, Data: l.Segs[at].Data}).Segs
			wantRecover(t, fmt.Sprintf("segment %d at %d", at, n), segs, logOf(5, ahead...), slices.Concat(ahead...), api.ErrCorrupt)
			wantRecover(t, fmt.Sprintf("segment %d at %d, the last", at, n), segs[:at+1], logOf(5, ahead...), slices.Concat(ahead...), api.ErrCorrupt)
		}
	}
	left := slices.Delete(slices.Clone(l.Segs), 1, 2)
	wantRecover(t, "a segment that is not there", left, logOf(5, group{"a", "b"}), group{"a", "b"}, api.ErrCorrupt)
	turned := []wal.Seg{l.Segs[1], l.Segs[0], l.Segs[2]}
	wantRecover(t, "segments in another order", turned, logOf(7, group{"c"}), group{"c"}, api.ErrCorrupt)
	twice := []wal.Seg{l.Segs[0], l.Segs[0]}
	wantRecover(t, "a segment twice", twice, logOf(5, group{"a", "b"}), group{"a", "b"}, api.ErrCorrupt)
}

// TestP8_2RecoverGoesOnAhead: where a tear ends it, that the next segment goes on from there does not matter.
func TestP8_2RecoverGoesOnAhead(t *testing.T) {
	cut := seg(5, "a", "b").Data[:12]
	segs := []wal.Seg{{First: 5, Data: cut}, seg(6, "c")}
	wantRecover(t, "a tear and a segment from there", segs, logOf(5, group{"a"}), group{"a"}, api.ErrCorrupt)
	segs[0].Data = cut[:9]
	wantRecover(t, "a segment that is shorter, and another from there", segs, logOf(5, group{"a"}, group{"c"}), group{"a", "c"}, api.OK)
}

func TestP8_2RecoverOrder(t *testing.T) {
	for _, n := range outside() {
		wantNotRecovered(t, "an empty segment outside", seg(n))
		wantNotRecovered(t, "a segment outside", seg(n, "a"))
		wantNotRecovered(t, "two segments outside", seg(n, "a"), seg(n+1, "b"))
		wantNotRecovered(t, "a torn segment outside", wal.Seg{First: n, Data: []byte("torn")})
		wantNotRecovered(t, "a first outside and a gap", seg(n, "a"), seg(3, "b"))
	}
	wantNotRecovered(t, "a record at the highest number", seg(highest, "a"))
	wantNotRecovered(t, "records past the highest number", seg(highest-1, "a", "b"))
	wantNotRecovered(t, "a segment past the highest number", seg(highest-1, "a"), seg(highest, "b"))
	wantNotRecovered(t, "past the highest number, then an empty one", seg(highest, "a"), seg(highest+1))
	wantNotRecovered(t, "past the highest number, then a tear", seg(highest, "a"), wal.Seg{First: highest + 1, Data: []byte{1}})
	wantNotRecovered(t, "past the highest number, then a gap", seg(highest-1, "a", "b"), seg(3, "c"))
	wantNotRecovered(t, "past the highest number within a tear", wal.Seg{First: highest, Data: append(frame(1, "a"), 1)}, seg(3, "c"))

	last := logOf(highest-1, group{"a"})
	wantRecover(t, "the highest next", last.Segs, last, group{"a"}, api.OK)
	wantRecover(t, "an empty segment at the highest next", append(last.Segs, seg(highest)), last, group{"a"}, api.OK)
	wantRecover(t, "a torn one at the highest next", append(last.Segs, wal.Seg{First: highest, Data: frame(1, "b")[:8]}), last, group{"a"}, api.OK)
	wantRecover(t, "a gap behind the highest next", append(last.Segs, seg(highest+1, "b")), last, group{"a"}, api.ErrCorrupt)
	wantRecover(t, "the highest first", []wal.Seg{seg(highest)}, logOf(highest, nil), nil, api.OK)
	wantRecover(t, "the highest first, torn", []wal.Seg{{First: highest, Data: frame(1, "a")[:8]}}, logOf(highest, nil), nil, api.OK)
	wantRecover(t, "the highest first, another Kind", []wal.Seg{{First: highest, Data: frame(2, "a")}}, logOf(highest, nil), nil, api.OK)
	wantRecover(t, "the highest first, torn, and another", []wal.Seg{{First: highest, Data: []byte{1}}, seg(highest, "a")}, logOf(highest, nil), nil, api.ErrCorrupt)
}

func TestP8_2RecoverMany(t *testing.T) {
	full := logOf(0, singles(most)...)
	wantRecover(t, "4096 segments", full.Segs, full, many(most, "s"), api.OK)
	wantRecover(t, "4096 empty segments", logOf(3, make([]group, most)...).Segs, logOf(3, nil), nil, api.OK)
	wantNotRecovered(t, "4097 segments", logOf(0, singles(most+1)...).Segs...)
	wantNotRecovered(t, "4097 empty segments", logOf(0, make([]group, most+1)...).Segs...)
	wantNotRecovered(t, "4097 segments, the last one torn", append(logOf(0, singles(most)...).Segs, wal.Seg{First: most, Data: []byte{1}})...)
	wantNotRecovered(t, "4097 segments, the first one torn", append([]wal.Seg{{Data: []byte{1}}}, full.Segs...)...)
	wantNotRecovered(t, "4097 segments with gaps", make([]wal.Seg, most+1)...)
	wantNotRecovered(t, "5000 segments", make([]wal.Seg, 5000)...)
	long := logOf(0, many(most+1, "r"), group{text(longest)})
	wantRecover(t, "4097 records in a segment", long.Segs, long, append(many(most+1, "r"), text(longest)), api.OK)
}

// TestP8_3Truncate: what goes, by hand.
func TestP8_3Truncate(t *testing.T) {
	three := []group{{"a", "b"}, {"c"}, {"d", "e"}} // 10, 11; 12; 13, 14
	whole := waiting(logOf(10, three...), "w", "v")
	for below := 0; below < 20; below++ {
		gone, first := 0, 10
		switch {
		case below >= 13:
			gone, first = 2, 13
		case below >= 12:
			gone, first = 1, 12
		}
		got, err := wal.Truncate(whole, below)
		wantLog(t, fmt.Sprintf("Truncate below %d", below), got, err, waiting(logOf(first, three[gone:]...), "w", "v"))
	}
	for _, below := range []int{-1, -10, math.MinInt, math.MinInt + 1} {
		got, err := wal.Truncate(whole, below)
		wantLog(t, fmt.Sprintf("Truncate below %d", below), got, err, whole)
	}
	for _, below := range []int{highest, highest + 1, math.MaxInt - 1, math.MaxInt} {
		got, err := wal.Truncate(whole, below)
		wantLog(t, fmt.Sprintf("Truncate below %d", below), got, err, waiting(logOf(13, three[2:]...), "w", "v"))
	}
}

// TestP8_3TruncateLast: the last segment stays, and a log without one stays as it is.
func TestP8_3TruncateLast(t *testing.T) {
	for _, l := range []wal.Log{{}, {Next: 7}, {Next: highest}, waiting(wal.Log{Next: 7}, "w"), logOf(7, nil), logOf(7, group{"a", "b"}), logOf(highest, nil)} {
		for _, below := range []int{math.MinInt, -1, 0, 7, 8, 9, 10, highest, math.MaxInt} {
			got, err := wal.Truncate(l, below)
			wantLog(t, fmt.Sprintf("Truncate of %s below %d", shape(l), below), got, err, l)
		}
	}
	full := logOf(highest-most, singles(most)...)
	got, err := wal.Truncate(full, highest-1)
	wantLog(t, "Truncate of all but one", got, err, logOf(highest-1, group{"s"}))
	got, err = wal.Truncate(full, highest-2)
	wantLog(t, "Truncate of all but two", got, err, logOf(highest-2, group{"s"}, group{"s"}))
	got, err = wal.Truncate(full, highest-most)
	wantLog(t, "Truncate of none", got, err, full)
}

// TestP8_3TruncateEmpty: a segment without records has none that is not below, whatever the number is.
func TestP8_3TruncateEmpty(t *testing.T) {
	for _, below := range []int{math.MinInt, -1, 0, 4, 5} {
		got, err := wal.Truncate(logOf(5, nil, group{"a"}, nil, nil, group{"b"}, nil), below)
		wantLog(t, fmt.Sprintf("Truncate of empty segments below %d", below), got, err, logOf(5, group{"a"}, group{"b"}, nil))
		got, err = wal.Truncate(logOf(5, nil, nil, nil), below)
		wantLog(t, fmt.Sprintf("Truncate of empty segments alone below %d", below), got, err, logOf(5, nil))
	}
	got, err := wal.Truncate(logOf(5, nil, group{"a"}, nil, group{"b"}, nil), 7)
	wantLog(t, "Truncate with an empty segment last", got, err, logOf(7, nil))
}

func TestP8_3Records(t *testing.T) {
	wantRecords(t, "nothing", wal.Log{}, 0)
	wantRecords(t, "no segments, next 7", wal.Log{Next: 7}, 7)
	wantRecords(t, "no segments, the highest next", waiting(wal.Log{Next: highest}, "w"), highest)
	wantRecords(t, "an empty segment", logOf(7, nil), 7)
	wantRecords(t, "empty segments", logOf(highest, nil, nil), highest)
	wantRecords(t, "one", logOf(0, group{"a"}), 0, "a")
	wantRecords(t, "an empty one", logOf(9, group{""}), 9, "")
	wantRecords(t, "the last that may be", logOf(highest-1, group{"a"}), highest-1, "a")
	wantRecords(t, "three segments and some that wait", waiting(logOf(10, group{"a", "b"}, group{""}, group{"d"}), "w"), 10, "a", "b", "", "d")
	wantRecords(t, "an empty segment first", logOf(10, nil, group{"a"}), 10, "a")
	wantRecords(t, "empty segments between and last", logOf(10, group{"a"}, nil, group{"b"}, nil), 10, "a", "b")
	wantRecords(t, "the longest", logOf(3, group{text(longest), "a"}), 3, text(longest), "a")
	wantRecords(t, "4096 segments", logOf(3, singles(most)...), 3, many(most, "s")...)
	wantRecords(t, "frames in records", logOf(3, group{string(frame(1, "x"))}), 3, string(frame(1, "x")))
}

// dice answers numbers without a plain order, each below the n that it is asked for.
func dice(seed uint64) func(n int) int {
	state := seed*0x9e3779b97f4a7c15 + 12345
	return func(n int) int {
		state = state*6364136223846793005 + 1442695040888963407
		return int((state >> 20) % uint64(n))
	}
}

// batchOf answers some records, short ones for the most part.
func batchOf(roll func(n int) int) []string {
	var l []string
	for range roll(6) {
		n := roll(20)
		if roll(20) == 0 {
			n = longest - roll(2)
		}
		l = append(l, text(n + 8)[roll(8):][:n])
	}
	return l
}

// TestP8_4FlushedIsRecovered: whatever the batches and the limits, what was flushed is told, no more and no less,
// and the recovered log goes on as if nothing had happened.
func TestP8_4FlushedIsRecovered(t *testing.T) {
	for seed := range uint64(60) {
		roll := dice(seed)
		first := []int{0, 1, 1 << 33, highest - 1000}[roll(4)]
		l := wal.Log{Next: first}
		var all, wait []string
		for range 12 {
			batch := batchOf(roll)
			wait = append(wait, batch...)
			l = appended(t, l, batch...)
			if roll(3) == 0 {
				continue
			}
			limit := []int{1, 9, 20, 60, 200, topLimit}[roll(6)]
			want := flushedBy(l, limit)
			l = flushed(t, l, limit)
			wantLog(t, "Flush", l, api.OK, want)
			all, wait = append(all, wait...), nil
			wantRecords(t, "what was flushed", l, first, all...)
			if len(l.Segs) == 0 {
				continue
			}
			wantRecover(t, "what was flushed", l.Segs, l, all, api.OK)
			if roll(2) == 0 {
				l, _, _ = wal.Recover(l.Segs)
			}
		}
		if l.Next != first+len(all) || len(l.Wait) != len(wait) {
			t.Errorf("%d records from %d on, %d wait: %s", len(all), first, len(wait), shape(l))
		}
	}
}

// TestP8_4WaitIsLost: what was not flushed a crash loses, and nothing else.
func TestP8_4WaitIsLost(t *testing.T) {
	l := flushed(t, appended(t, wal.Log{Next: 3}, "a", "b"), 1)
	m := appended(t, l, "c", "d")
	wantRecover(t, "a log with some that wait", m.Segs, l, group{"a", "b"}, api.OK)
}

// TestP8_5Beginning: of logs without a plain shape the last segment cut off anywhere; and it goes on from there.
func TestP8_5Beginning(t *testing.T) {
	for seed := range uint64(30) {
		roll := dice(1000 + seed)
		var groups []group
		for range 1 + roll(3) {
			groups = append(groups, append(batchOf(roll), text(roll(30))))
		}
		at := len(groups) - 1
		data := seg(0, groups[at]...).Data
		for range 40 {
			n := roll(len(data))
			whole := wholeAhead(groups[at], n)
			wantBeginning(t, fmt.Sprintf("cut off at %d", n), 8, groups, at, data[:n], whole)

			l := logOf(8, groups...)
			l.Segs[at].Data = data[:n]
			back, records, err := wal.Recover(l.Segs)
			if err != api.OK {
				t.Fatalf("Recover: %d", err)
			}
			again := flushed(t, appended(t, back, "again"), 50)
			wantRecover(t, "what went on behind a cut", again.Segs, again, append(textsOf(records), "again"), api.OK)
		}
	}
}

func textsOf(records [][]byte) []string {
	var l []string
	for _, r := range records {
		l = append(l, string(r))
	}
	return l
}

// TestP8_6NothingLost: below which number a log is truncated, each record from there on is there, by its number.
func TestP8_6NothingLost(t *testing.T) {
	for seed := range uint64(40) {
		roll := dice(2000 + seed)
		first := []int{0, 5, highest - 500}[roll(3)]
		l := wal.Log{Next: first}
		var all []string
		for range 8 {
			batch := batchOf(roll)
			all = append(all, batch...)
			l = flushed(t, appended(t, l, batch...), []int{1, 20, 60, 5000}[roll(4)])
		}
		l = appended(t, l, "waits")
		for below := first - 2; below <= l.Next+2; below++ {
			m, err := wal.Truncate(l, below)
			if err != api.OK || m.Next != l.Next || len(m.Wait) != 1 {
				t.Fatalf("Truncate below %d: %s, %d", below, shape(m), err)
			}
			_, from, _ := wal.Records(m)
			if from > max(below, first) || from < first {
				t.Fatalf("Truncate below %d of records from %d: they begin at %d", below, first, from)
			}
			wantRecords(t, "what was truncated", m, from, all[from-first:]...)
			if len(m.Segs) > 1 && m.Segs[1].First <= below {
				t.Errorf("Truncate below %d: the first segment ends below %d", below, m.Segs[1].First)
			}
			back, _, err := wal.Recover(m.Segs)
			wantLog(t, "what was truncated, recovered", back, err, waiting(m))
		}
	}
}

// TestNilAndEmpty: nil and empty lists are one.
func TestNilAndEmpty(t *testing.T) {
	bare := wal.Log{Segs: []wal.Seg{{First: 3}}, Next: 3, Wait: [][]byte{nil}}
	empty := wal.Log{Segs: []wal.Seg{{First: 3, Data: []byte{}}}, Next: 3, Wait: [][]byte{{}}}
	for _, l := range []wal.Log{bare, empty} {
		got, err := wal.Append(l, [][]byte{nil, {}})
		wantLog(t, "Append", got, err, waiting(logOf(3, nil), "", "", ""))
		got, err = wal.Append(l, [][]byte{})
		wantLog(t, "Append of none", got, err, waiting(logOf(3, nil), ""))
		wantLog(t, "Flush", flushed(t, l, 10), api.OK, logOf(3, group{""}))
		got, err = wal.Truncate(l, 9)
		wantLog(t, "Truncate", got, err, waiting(logOf(3, nil), ""))
		wantRecords(t, "an empty segment", l, 3)
		wantRecover(t, "an empty segment", l.Segs, logOf(3, nil), nil, api.OK)
	}
}

// TestSameAgain: what a call answers hangs on its arguments alone, whoever else calls.
func TestSameAgain(t *testing.T) {
	l := waiting(logOf(10, group{"a", "b"}, group{"c"}), "d", "e")
	var wait sync.WaitGroup
	for range 8 {
		wait.Go(func() {
			for range 50 {
				wantLog(t, "Append beside others", appended(t, l, "f"), api.OK, waiting(l, "d", "e", "f"))
				wantLog(t, "Flush beside others", flushed(t, l, 10), api.OK, logOf(10, group{"a", "b"}, group{"c", "d"}, group{"e"}))
				got, err := wal.Truncate(l, 12)
				wantLog(t, "Truncate beside others", got, err, waiting(logOf(12, group{"c"}), "d", "e"))
				wantRecords(t, "a log beside others", l, 10, "a", "b", "c")
				wantRecover(t, "segments beside others", l.Segs, waiting(l), group{"a", "b", "c"}, api.OK)
			}
		})
	}
	wait.Wait()
}
